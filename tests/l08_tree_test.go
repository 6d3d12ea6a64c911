package tests

import (
	"encoding/binary"
	"math"
	"slices"
	"strconv"
	"strings"
	"testing"

	"loop.example/g00260/impl"
)

const mostChildren = 4
const mostLeaves = 64
const deepest = 6

// chunkRoom is how many bytes a chunk has at most, so that a Blob takes its leaf.
const chunkRoom = impl.MaxText - 1

// rowText is numbers in a row, whatever they are.
func rowText(numbers ...int64) string {
	var row []byte
	for _, n := range numbers {
		row = binary.AppendUvarint(row, uint64(n))
	}
	return string(row)
}

// branchText is the text of a branch of these, whatever they are.
func branchText(digests ...int64) string {
	return "\x01" + rowText(int64(len(digests))) + rowText(digests...)
}

// digestsRight tells whether these are the digests of a branch, by the document's words.
func digestsRight(digests []int64) bool {
	for _, d := range digests {
		if d < 1 || d > greatestDigest {
			return false
		}
	}
	return len(digests) >= 1 && len(digests) <= mostChildren
}

// childrenOf tells Children: a branch is what branchText makes of right digests.
func childrenOf(s string) ([]int64, bool) {
	if strings.HasPrefix(s, "\x00") {
		return nil, true
	}
	if !strings.HasPrefix(s, "\x01") {
		return nil, false
	}
	rest := []byte(s[1:])
	count, size := binary.Uvarint(rest)
	if size <= 0 || count > mostChildren {
		return nil, false
	}
	rest = rest[size:]
	var digests []int64
	for range count {
		d, size := binary.Uvarint(rest)
		if size <= 0 {
			return nil, false
		}
		digests, rest = append(digests, int64(d)), rest[size:]
	}
	if !digestsRight(digests) || branchText(digests...) != s {
		return nil, false
	}
	return digests, true
}

// grownOf tells Grown of chunks that are right, row by row.
func grownOf(chunks []string) ([]string, int64) {
	var all []string
	var row []int64
	for _, chunk := range chunks {
		all = append(all, "\x00"+chunk)
		row = append(row, impl.Digest("\x00"+chunk))
	}
	for len(row) > 1 {
		var above []int64
		for from := 0; from < len(row); from += mostChildren {
			s := branchText(row[from:min(len(row), from+mostChildren)]...)
			all = append(all, s)
			above = append(above, impl.Digest(s))
		}
		row = above
	}
	return all, row[0]
}

// textOfBlob is the text with this digest, and whether there is one.
func textOfBlob(list []impl.Blob, digest int64) (string, bool) {
	for _, b := range list {
		if b.Digest == digest {
			return b.Text, true
		}
	}
	return "", false
}

// toldOf tells Told of a store: as often as it may go deeper, each branch in the row gives way to its children.
func toldOf(list []impl.Blob, root int64) ([]string, bool) {
	row := []int64{root}
	for range deepest {
		var below []int64
		for _, d := range row {
			s, _ := textOfBlob(list, d)
			if children, _ := childrenOf(s); len(children) > 0 {
				below = append(below, children...)
			} else {
				below = append(below, d)
			}
		}
		row = below
	}
	var chunks []string
	for _, d := range row {
		s, there := textOfBlob(list, d)
		if !there || !strings.HasPrefix(s, "\x00") || len(chunks) == mostLeaves {
			return nil, false
		}
		chunks = append(chunks, s[1:])
	}
	return chunks, true
}

// reachOf tells Reach of a store: all are gone on from, again and again, until that brings no other.
func reachOf(list []impl.Blob, roots []int64) []int64 {
	all := slices.Clone(roots)
	for before := -1; before < len(all); {
		before = len(all)
		for _, d := range slices.Clone(all) {
			s, _ := textOfBlob(list, d)
			children, _ := childrenOf(s)
			all = append(all, children...)
		}
		slices.Sort(all)
		all = slices.Compact(all)
	}
	return all
}

// branchIs fails where Branch of right digests is not this text, or Children of it not these.
func branchIs(t *testing.T, digests []int64, wanted string) {
	t.Helper()
	if s := impl.Branch(digests); s != wanted {
		t.Errorf("Branch(%v) is %q, not %q", digests, s, wanted)
	}
	if children, is := impl.Children(wanted); !is || !slices.Equal(children, digests) {
		t.Errorf("Children(%q) is %v, %v, not %v", wanted, children, is, digests)
	}
}

// childrenRight fails where Children is not what the document's words tell.
func childrenRight(t *testing.T, why, s string) {
	t.Helper()
	wanted, well := childrenOf(s)
	if children, is := impl.Children(s); is != well || !slices.Equal(children, wanted) {
		t.Fatalf("%s: Children(%.60q) is %v, %v, not %v, %v", why, s, children, is, wanted, well)
	}
}

// grows fails where Grown is not what the document's words tell. It answers what Grown has told.
func grows(t *testing.T, chunks []string) ([]string, int64) {
	t.Helper()
	wanted, top := grownOf(chunks)
	all, root := impl.Grown(chunks)
	if root != top || !slices.Equal(all, wanted) {
		t.Fatalf("Grown of %d chunks, %.60q, is %d texts and %d, not %d and %d", len(chunks), chunks, len(all), root, len(wanted), top)
	}
	return all, root
}

// growsNot fails where Grown is not nothing and 0.
func growsNot(t *testing.T, why string, chunks []string) {
	t.Helper()
	if all, root := impl.Grown(chunks); len(all) != 0 || root != 0 {
		t.Errorf("%s: Grown of %d chunks is %d texts and %d", why, len(chunks), len(all), root)
	}
}

// tells fails where Told is not these chunks and true.
func tells(t *testing.T, why string, list []impl.Blob, root int64, wanted []string) {
	t.Helper()
	if chunks, is := impl.Told(list, root); !is || !slices.Equal(chunks, wanted) {
		t.Fatalf("%s: Told of %d in %d Blobs is %d chunks, %.60q, %v, not %d, %.60q", why, root, len(list), len(chunks), chunks, is, len(wanted), wanted)
	}
}

// tellsNot fails where Told is not nothing and false.
func tellsNot(t *testing.T, why string, list []impl.Blob, root int64) {
	t.Helper()
	if chunks, is := impl.Told(list, root); is || len(chunks) != 0 {
		t.Fatalf("%s: Told of %d in %d Blobs is %d chunks, %.60q, %v", why, root, len(list), len(chunks), chunks, is)
	}
}

// toldRight fails where Told is not what the document's words tell.
func toldRight(t *testing.T, why string, list []impl.Blob, root int64) {
	t.Helper()
	if wanted, well := toldOf(list, root); well {
		tells(t, why, list, root, wanted)
	} else {
		tellsNot(t, why, list, root)
	}
}

// reaches fails where Reach is not these.
func reaches(t *testing.T, why string, list []impl.Blob, roots, wanted []int64) {
	t.Helper()
	if all := impl.Reach(list, roots); !slices.Equal(all, wanted) {
		t.Fatalf("%s: Reach of %.20v in %d Blobs is %d digests, %.20v, not %d, %.20v", why, roots, len(list), len(all), all, len(wanted), wanted)
	}
}

// reachRight fails where Reach is not what the document's words tell.
func reachRight(t *testing.T, why string, list []impl.Blob, roots []int64) {
	t.Helper()
	reaches(t, why, list, roots, reachOf(list, roots))
}

// storeOf puts the texts into a store, each once, and fails where one is not taken.
func storeOf(t *testing.T, texts ...string) []impl.Blob {
	t.Helper()
	var list []impl.Blob
	for _, s := range texts {
		more, _, code := impl.Put(list, s)
		if code != impl.PtNew && code != impl.PtAgain {
			t.Fatalf("the test's own text of %d bytes, %.40q, is not taken: %d", len(s), s, code)
		}
		list = more
	}
	return list
}

// chunksOf are this many chunks, each another one.
func chunksOf(count int) []string {
	var chunks []string
	for i := range count {
		chunks = append(chunks, "chunk "+strconv.Itoa(i))
	}
	return chunks
}

// chunkLists are lists that grow: ordinary ones and edges.
func chunkLists() [][]string {
	lists := [][]string{
		{""}, {"a"}, {"\x00"}, {"\x01"}, {"\x00a"}, {"\x01\x01\x05"}, {impl.Branch([]int64{5, 7})},
		{"", ""}, {"a", "a"}, {"a", "b"}, {"b", "a"}, {"ab", "cd"}, {"a", "", "a"}, {"", "", "", "", ""},
		{"a", "b", "c", "d", "a", "b", "c", "d"}, {"a", "b", "c", "d", "a"}, {"\x00", "\x01", "\x00\x00", "\x00\x01", "\x01\x00", "\x01\x01"},
		{strings.Repeat("x", chunkRoom)}, {mixed(chunkRoom, 1), "", mixed(chunkRoom, 2), mixed(chunkRoom-1, 3)},
		{allBytes()}, plain, impl.Chunks(mixed(400, 7), benchRule), impl.Chunks("the quick brown fox", benchRule),
	}
	for count := 1; count <= mostLeaves; count++ {
		lists = append(lists, chunksOf(count))
	}
	for _, count := range []int{1, 3, 4, 5, 8, 9, 15, 16, 17, 20, 21, 32, 33, 48, 63, 64} {
		lists = append(lists, slices.Repeat([]string{"a"}, count), slices.Repeat([]string{""}, count), numbersOf(count, 9))
	}
	return append(lists, slices.Repeat([]string{strings.Repeat("x", chunkRoom)}, mostLeaves), numbersOf(mostLeaves, chunkRoom))
}

// treeState is what the bytes come to that are behind h.
func treeState(h int64, s string) int64 {
	for i := range len(s) {
		h = (h*1000003 + int64(s[i]) + 1) % 2147483647
	}
	return h
}

// undone is what h was ahead of these bytes.
func undone(h int64, s string) int64 {
	const back = 1523789695 // times 1000003 it is 1, modulo 2147483647
	for i := len(s) - 1; i >= 0; i-- {
		h = ((h-int64(s[i])-1)%2147483647 + 2147483647) % 2147483647 * back % 2147483647
	}
	return h
}

// branchTo finds a branch with this digest: these children ahead, then two leaves, then these behind. It answers the texts of the branch and of the leaves.
func branchTo(digest int64, ahead, behind []int64) []string {
	count := int64(len(ahead) + 2 + len(behind))
	from := treeState(1, "\x01"+rowText(count)+rowText(ahead...))
	to := undone(digest, rowText(behind...))
	first := map[int64]string{}
	for i := range 1 << 17 {
		s := "\x00first " + strconv.Itoa(i)
		first[treeState(from, rowText(impl.Digest(s)))] = s
	}
	for i := 0; ; i++ {
		second := "\x00second " + strconv.Itoa(i)
		if s, is := first[undone(to, rowText(impl.Digest(second)))]; is {
			children := slices.Concat(ahead, []int64{impl.Digest(s), impl.Digest(second)}, behind)
			return []string{branchText(children...), s, second}
		}
	}
}

// knot is two leaves, and two branches that come to each other, of the digests 1111 and 2222.
func knot() []string {
	return append(branchTo(1111, []int64{2222}, nil), branchTo(2222, nil, []int64{1111})...)
}

// chainOver are this many branches of one child, each over the one ahead of it, the first one over this digest; and the digest of the last one.
func chainOver(digest int64, many int) ([]string, int64) {
	var texts []string
	for range many {
		s := branchText(digest)
		texts = append(texts, s)
		digest = impl.Digest(s)
	}
	return texts, digest
}

// neithers are texts that are neither leaf nor branch.
func neithers() []string {
	many := []string{"", "\x01", "\x01\x00", "\x01\x01", "\x01\x01\x00", "\x01\x01\xff\xff\xff\xff\x07", "\x02", "\x02\x01\x05", "a", "0", "1", "korseta", "\xff\xff", "\x81\x01\x05"}
	many = append(many, branchText(1, 2, 3, 4, 5), branchText(0, 1), branchText(5, 0), branchText(1, 2, 3, 2147483647), branchText(1<<32+5), branchText(1<<40), branchText(1<<40+1))
	for _, s := range []string{branchText(5), branchText(1, 300), branchText(1, 2, 3, 4), branchText(greatestDigest)} {
		many = append(many, s+"\x00", s+"a", s[:len(s)-1], s[1:], "\x01"+s)
	}
	return many
}

// someTrees are stores with trees in them, and what else a store may hold.
func someTrees(t *testing.T) [][]impl.Blob {
	five, root := impl.Grown([]string{"a", "b", "c", "d", "e"})
	chain, top := chainOver(root, 4)
	stores := [][]impl.Blob{
		nil,
		{},
		storeOf(t, "\x00"),
		storeOf(t, "\x00a", branchText(impl.Digest("\x00a"), 1, impl.Digest("\x00a"), 5)),
		storeOf(t, five...),
		storeOf(t, append(chain, five...)...),
		storeOf(t, branchText(root, top), branchText(top, root), branchText(1, 5, greatestDigest)),
		storeOf(t, append(knot(), branchText(1111), branchText(2222, 1111, 7))...),
		storeOf(t, branchTo(5, []int64{5}, nil)...),
		storeOf(t, branchTo(greatestDigest, nil, []int64{greatestDigest, greatestDigest})...),
		storeOf(t, "", branchText(1), branchText(1, impl.Digest("\x00x")), "\x00x"),
	}
	for seed := range uint32(30) {
		stores = append(stores, grove(t, 40, seed))
	}
	for _, chunks := range [][]string{{"x"}, chunksOf(16), chunksOf(17), chunksOf(64), slices.Repeat([]string{"x"}, 64)} {
		all, _ := impl.Grown(chunks)
		stores = append(stores, storeOf(t, append(all, "korseta", branchText(1, 2, 3, 4, 5))...))
	}
	full, _ := impl.Grown(chunksOf(mostLeaves))
	return append(stores, storeOf(t, append(full, numbersOf(impl.MaxBlobs-len(full), 6)...)...))
}

// grove is a store of leaves, of texts that are neither, and of branches over any of these, over branches, and over what is not there.
func grove(t *testing.T, size int, seed uint32) []impl.Blob {
	t.Helper()
	next := func(below int) int {
		seed = seed*1664525 + 1013904223
		return int(seed>>9) % below
	}
	texts := []string{"\x00", "\x00a", "\x00b", "\x00\x01"}
	if next(3) == 0 {
		texts = append(texts, "korsetab", branchText(1, 2, 3, 4, 5))
	}
	for len(texts) < size {
		if next(5) == 0 {
			texts = append(texts, "\x00"+mixed(next(30), seed))
			continue
		}
		var children []int64
		for range next(mostChildren) + 1 {
			children = append(children, impl.Digest(texts[len(texts)-1-next(min(len(texts), 4+next(size)))]))
		}
		if next(25) == 0 {
			children[next(len(children))] = int64(next(1000) + 2)
		}
		texts = append(texts, branchText(children...))
	}
	if impl.Clashes(texts) {
		return nil
	}
	return storeOf(t, texts...)
}

func TestLeafIsTheTextTheDocumentTells(t *testing.T) {
	chunks := []string{"", "\x00", "\x01", "a", "x", "\x00a", "\x01\x01\x05", impl.Branch([]int64{5}), impl.Leaf("a"), "\xff", allBytes(), mixed(chunkRoom, 1), mixed(chunkRoom+1, 1), mixed(100000, 1)}
	for b := range 256 {
		chunks = append(chunks, string([]byte{byte(b)}))
	}
	for _, chunk := range append(chunks, pool()...) {
		s := impl.Leaf(chunk)
		if s != "\x00"+chunk {
			t.Errorf("Leaf of %d bytes, %.40q, is %.40q", len(chunk), chunk, s)
		}
		if children, is := impl.Children(s); !is || len(children) != 0 {
			t.Errorf("Children of the leaf of %.40q is %v, %v", chunk, children, is)
		}
	}
}

func TestBranchIsTheTextTheDocumentTells(t *testing.T) {
	branchIs(t, []int64{1}, "\x01\x01\x01")
	branchIs(t, []int64{5}, "\x01\x01\x05")
	branchIs(t, []int64{127}, "\x01\x01\x7f")
	branchIs(t, []int64{128}, "\x01\x01\x80\x01")
	branchIs(t, []int64{5, 300}, "\x01\x02\x05\xac\x02")
	branchIs(t, []int64{300, 5}, "\x01\x02\xac\x02\x05")
	branchIs(t, []int64{3, 2, 1}, "\x01\x03\x03\x02\x01")
	branchIs(t, []int64{1, 2, 3, 4}, "\x01\x04\x01\x02\x03\x04")
	branchIs(t, []int64{7, 7}, "\x01\x02\x07\x07")
	branchIs(t, []int64{7, 7, 7, 7}, "\x01\x04\x07\x07\x07\x07")
	branchIs(t, []int64{greatestDigest}, "\x01\x01\xfe\xff\xff\xff\x07")
	branchIs(t, []int64{1, greatestDigest, 1, greatestDigest}, "\x01\x04\x01\xfe\xff\xff\xff\x07\x01\xfe\xff\xff\xff\x07")
	branchIs(t, []int64{426182661, 428182669}, branchText(426182661, 428182669))
}

// Of every list of at most five numbers out of these, right ones and wrong ones.
func TestBranchOfEveryShortList(t *testing.T) {
	few := []int64{1, greatestDigest, 300, 0, greatestDigest + 1, -1}
	texts("\x00\x01\x02\x03\x04\x05", 5, func(places string) {
		var digests []int64
		for i := range len(places) {
			digests = append(digests, few[places[i]])
		}
		if digestsRight(digests) {
			branchIs(t, digests, branchText(digests...))
		} else if s := impl.Branch(digests); s != "" {
			t.Errorf("Branch(%v) is %q", digests, s)
		}
	})
}

func TestBranchOfWhatIsNone(t *testing.T) {
	for _, digests := range [][]int64{nil, {}, {1, 2, 3, 4, 5}, {7, 7, 7, 7, 7}, make([]int64, 4), make([]int64, 5), slices.Repeat([]int64{7}, 200), slices.Repeat([]int64{7}, 201), slices.Repeat([]int64{7}, 100000)} {
		if s := impl.Branch(digests); s != "" {
			t.Errorf("Branch of %d digests is %q", len(digests), s)
		}
	}
	for _, wrong := range []int64{0, -1, -2, -greatestDigest, greatestDigest + 1, greatestDigest + 2, 1<<31 + 1, 1 << 32, 1<<32 + 5, impl.MaxNumber - 1, impl.MaxNumber, impl.MaxNumber + 1, math.MaxInt64, math.MinInt64, math.MinInt64 + 5} {
		for size := 1; size <= mostChildren; size++ {
			for at := range size {
				digests := []int64{1, 300, greatestDigest, 7}[:size]
				digests[at] = wrong
				if s := impl.Branch(digests); s != "" {
					t.Errorf("Branch(%v) is %q", digests, s)
				}
			}
		}
	}
}

func TestChildrenOfWhatIsNeither(t *testing.T) {
	for _, s := range neithers() {
		if children, is := impl.Children(s); is || len(children) != 0 {
			t.Errorf("Children(%q) is %v, %v", s, children, is)
		}
		childrenRight(t, "neither", s)
	}
	for _, s := range []string{impl.Numbers(slices.Repeat([]int64{7}, 200)), strings.Repeat("\x01", 100000), strings.Repeat("\xff", 100000), mixed(100000, 3)} {
		childrenRight(t, "very long", "\x01"+s)
		childrenRight(t, "very long", "\x02"+s)
		childrenRight(t, "very long", "\x00"+s)
	}
}

// The first byte alone tells leaves; of all other bytes only 1 begins a branch.
func TestChildrenByTheFirstByte(t *testing.T) {
	for b := range 256 {
		for _, rest := range []string{"", "\x00", "\x01", "\x01\x05", "\x04\x01\x02\x03\x04", "\x05\x01\x02\x03\x04\x05", "a", "\x01\x05a"} {
			childrenRight(t, "a first byte", string([]byte{byte(b)})+rest)
		}
	}
}

func TestChildrenOfEveryShortText(t *testing.T) {
	texts("\x00\x01\x02\x04\x05\x80\xff", 6, func(s string) { childrenRight(t, "a short text", s) })
	texts("\x00\x01\x02\x7f\x80\xff", 5, func(s string) {
		childrenRight(t, "a branch of one", "\x01\x01"+s)
		childrenRight(t, "a branch of two", "\x01\x02"+s)
	})
}

// Around the greatest number of each length, and around the ends of what a digest may be.
func TestChildrenOfNumbersOfAllLengths(t *testing.T) {
	for shift := range 64 {
		for _, d := range []int64{1<<shift - 1, 1 << shift, 1<<shift + 1} {
			for _, digests := range [][]int64{{d}, {d, 5}, {5, d}, {1, 2, 3, d}, {d, d, d, d}, {d, d, d, d, d}} {
				s := branchText(digests...)
				childrenRight(t, "a branch", s)
				childrenRight(t, "one byte more", s+"\x00")
				childrenRight(t, "one byte more", s+"\x01")
				childrenRight(t, "one byte less", s[:len(s)-1])
				childrenRight(t, "a number that goes on", s[:len(s)-1]+string([]byte{s[len(s)-1] | 128, 0}))
			}
		}
	}
}

func TestChildrenOfBranchesThatAreCutOrChanged(t *testing.T) {
	for _, s := range []string{branchText(5), branchText(1, greatestDigest), branchText(300, 2, 70000, 1000101), branchText(greatestDigest, greatestDigest, greatestDigest, greatestDigest)} {
		for at := range len(s) {
			childrenRight(t, "cut", s[:at])
			childrenRight(t, "cut ahead", s[at:])
			for b := range 256 {
				childrenRight(t, "changed", s[:at]+string([]byte{byte(b)})+s[at+1:])
				childrenRight(t, "with one more", s[:at]+string([]byte{byte(b)})+s[at:])
			}
		}
	}
}

func TestGrownIsWhatTheDocumentTells(t *testing.T) {
	for _, c := range []struct {
		chunks []string
		texts  []string
	}{
		{[]string{""}, []string{"\x00"}},
		{[]string{"a"}, []string{"\x00a"}},
		{[]string{"ab", "cd"}, []string{"\x00ab", "\x00cd", branchText(426182661, 428182669)}},
		{[]string{"a", "a"}, []string{"\x00a", "\x00a", branchText(impl.Digest("\x00a"), impl.Digest("\x00a"))}},
		{[]string{"", "", "", ""}, []string{"\x00", "\x00", "\x00", "\x00", branchText(1000004, 1000004, 1000004, 1000004)}},
		{[]string{"", "", "", "", ""}, []string{"\x00", "\x00", "\x00", "\x00", "\x00", branchText(1000004, 1000004, 1000004, 1000004), branchText(1000004),
			branchText(impl.Digest(branchText(1000004, 1000004, 1000004, 1000004)), impl.Digest(branchText(1000004)))}},
	} {
		all, root := grows(t, c.chunks)
		if !slices.Equal(all, c.texts) || root != impl.Digest(c.texts[len(c.texts)-1]) {
			t.Errorf("Grown(%q) is %q, %d, not %q", c.chunks, all, root, c.texts)
		}
	}
	if _, root := impl.Grown([]string{"ab", "cd"}); root != 77649707 {
		t.Errorf("two chunks grow to %d", root)
	}
	for count, wanted := range map[int]int{1: 1, 2: 3, 4: 5, 5: 8, 8: 11, 16: 21, 17: 25, 20: 28, 21: 30, 32: 43, 33: 46, 48: 64, 49: 67, 63: 84, 64: 85} {
		if all, _ := grows(t, chunksOf(count)); len(all) != wanted {
			t.Errorf("Grown of %d chunks is %d texts, not %d", count, len(all), wanted)
		}
		if all, _ := grows(t, slices.Repeat([]string{"x"}, count)); len(all) != wanted {
			t.Errorf("Grown of %d alike chunks is %d texts, not %d", count, len(all), wanted)
		}
	}
	for _, chunks := range chunkLists() {
		grows(t, chunks)
	}
}

func TestGrownOfEveryShortList(t *testing.T) {
	texts("\x00\x01a", 6, func(s string) {
		if s != "" {
			grows(t, strings.Split(s, ""))
			grows(t, strings.Split(s, "a"))
		}
	})
}

func TestGrownOfNoChunksOrTooMany(t *testing.T) {
	growsNot(t, "none", nil)
	growsNot(t, "none", []string{})
	growsNot(t, "one too many", chunksOf(mostLeaves+1))
	growsNot(t, "one too many, alike", slices.Repeat([]string{"x"}, mostLeaves+1))
	growsNot(t, "one too many, empty", make([]string, mostLeaves+1))
	growsNot(t, "far too many", make([]string, 1000000))
	growsNot(t, "one too many, and one too long", append(chunksOf(mostLeaves), mixed(chunkRoom+1, 1)))
}

func TestGrownOfAChunkThatIsTooLong(t *testing.T) {
	fits, past := mixed(chunkRoom, 1), mixed(chunkRoom+1, 1)
	for _, size := range []int{1, 2, 4, 5, 16, 17, 63, 64} {
		for _, at := range []int{0, 1, 3, 4, size / 2, size - 1} {
			if at < size {
				chunks := chunksOf(size)
				chunks[at] = fits
				grows(t, chunks)
				chunks[at] = past
				growsNot(t, "one byte too long", chunks)
				chunks[at] = strings.Repeat("x", 1000000)
				growsNot(t, "far too long", chunks)
			}
		}
	}
	all, root := grows(t, []string{fits})
	if len(all[0]) != impl.MaxText {
		t.Errorf("the greatest leaf has %d bytes", len(all[0]))
	}
	tells(t, "the greatest chunk", storeOf(t, all...), root, []string{fits})
}

// Promise 8: Told of what was Grown, its texts put into a store in any order, with others beside, are the chunks.
func TestToldOfGrownAreTheChunks(t *testing.T) {
	for i, chunks := range chunkLists() {
		all, root := grows(t, chunks)
		if impl.Clashes(all) {
			t.Fatalf("the test's own chunks, list %d, Clash", i)
		}
		few := min(impl.MaxBlobs-len(all), 20)
		for _, texts := range [][]string{all, shuffled(all, uint32(i)), append(shuffled(all, uint32(i)+7), numbersOf(few, 5)...), append(slices.Clone(all), all...)} {
			list := storeOf(t, texts...)
			tells(t, "what was Grown", list, root, chunks)
			toldRight(t, "what was Grown", list, root)
			reachRight(t, "what was Grown", list, []int64{root})
		}
	}
}

func TestToldOfGrownOfEveryShortList(t *testing.T) {
	texts("\x00\x01a", 6, func(s string) {
		chunks := strings.Split(s, "a")
		all, root := impl.Grown(chunks)
		tells(t, "a short list", storeOf(t, all...), root, chunks)
	})
}

// Of a text that is cut, and two trees in one store that have some pieces in common.
func TestToldOfTwoTextsThatAreCut(t *testing.T) {
	old := mixed(300, 5)
	fresh := old[:150] + "changed" + old[150:]
	before, after := impl.Chunks(old, benchRule), impl.Chunks(fresh, benchRule)
	one, first := grows(t, before)
	two, second := grows(t, after)
	list := storeOf(t, append(slices.Clone(one), two...)...)
	tells(t, "the old one", list, first, before)
	tells(t, "the fresh one", list, second, after)
	if chunks, _ := impl.Told(list, first); impl.Glued(chunks) != old {
		t.Error("what is told, glued, is not the old text")
	}
	reachRight(t, "both", list, []int64{first, second})
	if len(list) >= len(one)+len(two) {
		t.Error("nothing of two texts with most in common lies there once")
	}
}

// merkle fails where two lists grow to one root but are neither alike nor have texts that Clash.
func merkle(t *testing.T, a, b []string) {
	t.Helper()
	one, first := impl.Grown(a)
	two, second := impl.Grown(b)
	if first == second && !slices.Equal(a, b) && !impl.Clashes(slices.Concat(one, two)) {
		t.Fatalf("%.60q and %.60q grow to %d both, and no two texts of their trees Clash", a, b, first)
	}
	if slices.Equal(a, b) != slices.Equal(one, two) || slices.Equal(a, b) && first != second {
		t.Fatalf("%.60q and %.60q grow to %d and %d", a, b, first, second)
	}
}

// Promise 8: lists that grow to one root are alike, or two texts of their trees Clash.
func TestListsThatGrowToOneRootAreAlikeOrClash(t *testing.T) {
	lists := chunkLists()
	for _, group := range clashing {
		for _, s := range group {
			lists = append(lists, []string{s}, []string{"a", s}, []string{s, "b", "c", "d", "e"})
		}
	}
	// Such as are made of the texts of another one's tree: none may pass for it.
	for _, chunks := range [][]string{{"a"}, {"a", "b"}, {"a", "b", "c", "d", "e"}, chunksOf(17)} {
		all, _ := impl.Grown(chunks)
		lists = append(lists, all, all[len(all)-1:], all[len(chunks):], []string{all[len(all)-1][1:]})
	}
	for i, a := range lists {
		for _, b := range lists[i:] {
			if len(a) > 0 && len(b) > 0 {
				merkle(t, a, b)
			}
		}
	}
}

func TestListsOfEveryShortShapeGrowToOneRootOnlyWhereTheyAreAlikeOrClash(t *testing.T) {
	known := map[int64][]string{}
	see := func(chunks []string) {
		_, root := impl.Grown(chunks)
		if other, is := known[root]; is {
			merkle(t, chunks, other)
		}
		known[root] = chunks
	}
	texts("\x00\x01ab", 7, func(s string) {
		see(strings.Split(s, "a"))
		see(strings.Split(s, "\x00"))
	})
	for _, part := range []string{"", "a", "\x00", "\x01"} {
		for count := 1; count <= mostLeaves; count++ {
			see(slices.Repeat([]string{part}, count))
		}
	}
}

// There are unlike lists with one root: of texts that Clash, and of a branch that has a leaf's digest.
func TestUnlikeListsWithOneRoot(t *testing.T) {
	one, first := grows(t, []string{"atuwtwkco"})
	two, second := grows(t, []string{"qybuogwlf"})
	if first != second || !impl.Clash(one[0], two[0]) {
		t.Errorf("chunks as long that Clash grow to %d and %d", first, second)
	}
	merkle(t, []string{"atuwtwkco"}, []string{"qybuogwlf"})
	merkle(t, []string{"a", "atuwtwkco", "b"}, []string{"a", "qybuogwlf", "b"})
	leaf := impl.Digest("\x00cellar")
	many := branchTo(leaf, nil, nil)
	short, long := []string{"cellar"}, []string{many[1][1:], many[2][1:]}
	if _, root := grows(t, long); root != leaf {
		t.Fatalf("the test's own branch has %d, not the digest of the leaf, %d", root, leaf)
	}
	merkle(t, short, long)
	tells(t, "the leaf is there", storeOf(t, "\x00cellar", many[1], many[2]), leaf, short)
	tells(t, "the branch is there", storeOf(t, many...), leaf, long)
	reaches(t, "the leaf is there", storeOf(t, "\x00cellar", many[1], many[2]), []int64{leaf}, []int64{leaf})
	reachRight(t, "the branch is there", storeOf(t, many...), []int64{leaf})
}

func TestToldOfARootThatIsALeafOrNothing(t *testing.T) {
	list := storeOf(t, "\x00", "\x00a", "\x00\x00", "\x00\x01\x01\x05", "a", "", branchText(1, 2, 3, 4, 5))
	tells(t, "an empty leaf", list, 1000004, []string{""})
	tells(t, "a leaf", list, impl.Digest("\x00a"), []string{"a"})
	tells(t, "a leaf of a byte 0", list, impl.Digest("\x00\x00"), []string{"\x00"})
	tells(t, "a leaf with a branch's text", list, impl.Digest("\x00\x01\x01\x05"), []string{"\x01\x01\x05"})
	tellsNot(t, "neither", list, impl.Digest("a"))
	tellsNot(t, "an empty text", list, 1)
	tellsNot(t, "a branch of five", list, impl.Digest(branchText(1, 2, 3, 4, 5)))
	for _, d := range strangers(list) {
		tellsNot(t, "it is not there", list, d)
		tellsNot(t, "an empty store", nil, d)
		tellsNot(t, "an empty list", []impl.Blob{}, d)
	}
	tellsNot(t, "an empty store", nil, impl.Digest("\x00a"))
	for _, s := range neithers() {
		tellsNot(t, "neither", storeOf(t, s), impl.Digest(s))
	}
}

func TestToldWithoutOneOfTheTexts(t *testing.T) {
	for _, chunks := range [][]string{{"a"}, {"a", "b"}, chunksOf(4), chunksOf(5), chunksOf(16), chunksOf(17), chunksOf(64), slices.Repeat([]string{"x"}, 17)} {
		all, root := impl.Grown(chunks)
		list := storeOf(t, all...)
		for _, s := range all {
			d := impl.Digest(s)
			without := impl.Drop(list, []int64{d})
			tellsNot(t, "one is not there", without, root)
			reachRight(t, "one is not there", without, []int64{root})
			// One is another text with its digest, and that is neither.
			neither := append(slices.Clone(without), impl.Blob{Digest: d, Text: sevenRound + s})
			slices.SortFunc(neither, func(a, b impl.Blob) int { return int(a.Digest - b.Digest) })
			if !impl.StoreOk(neither) {
				t.Fatal("the test's own list is no store")
			}
			tellsNot(t, "one is neither", neither, root)
			reachRight(t, "one is neither", neither, []int64{root})
		}
	}
}

func TestToldOfEachPlaceBelowThatIsNotRight(t *testing.T) {
	leaf := impl.Digest("\x00a")
	for _, s := range append(neithers(), "") {
		wrong := impl.Digest(s)
		for size := 1; size <= mostChildren; size++ {
			for at := range size {
				children := slices.Repeat([]int64{leaf}, size)
				right := branchText(children...)
				children[at] = wrong
				spoilt := branchText(children...)
				deeper := branchText(impl.Digest(right), impl.Digest(spoilt))
				list := storeOf(t, "\x00a", s, right, spoilt, deeper)
				tells(t, "beside one that is neither", list, impl.Digest(right), slices.Repeat([]string{"a"}, size))
				tellsNot(t, "one below is neither", list, impl.Digest(spoilt))
				tellsNot(t, "one far below is neither", list, impl.Digest(deeper))
				list = impl.Drop(list, []int64{wrong})
				tellsNot(t, "one below is not there", list, impl.Digest(spoilt))
				tellsNot(t, "one far below is not there", list, impl.Digest(deeper))
			}
		}
	}
}

func TestToldOfATreeOfEachDepth(t *testing.T) {
	leaf := impl.Digest("\x00a")
	for many := range 12 {
		texts, top := chainOver(leaf, many)
		list := storeOf(t, append(texts, "\x00a")...)
		if many <= deepest {
			tells(t, "a leaf so deep", list, top, []string{"a"})
		} else {
			tellsNot(t, "a leaf too deep", list, top)
		}
		toldRight(t, "a leaf so deep", list, top)
		reachRight(t, "a leaf so deep", list, []int64{top})
	}
}

// One leaf is too deep, at whatever place, and all others are not.
func TestToldOfATreeThatIsTooDeepAtOnePlace(t *testing.T) {
	leaf := impl.Digest("\x00a")
	for many := 3; many < 9; many++ {
		for at := range mostChildren {
			texts, top := chainOver(leaf, many-1)
			children := slices.Repeat([]int64{leaf}, mostChildren)
			children[at] = top
			s := branchText(children...)
			list := storeOf(t, append(texts, "\x00a", s)...)
			if many <= deepest {
				tells(t, "one place so deep", list, impl.Digest(s), []string{"a", "a", "a", "a"})
			} else {
				tellsNot(t, "one place too deep", list, impl.Digest(s))
			}
		}
	}
}

// From any place of a deep chain on, that it goes on above does not matter.
func TestToldOfPartsOfADeepChain(t *testing.T) {
	texts, top := chainOver(impl.Digest("\x00a"), 250)
	list := storeOf(t, append(texts, "\x00a")...)
	tells(t, "the leaf", list, impl.Digest("\x00a"), []string{"a"})
	for i, s := range texts {
		if i < deepest {
			tells(t, "not too deep", list, impl.Digest(s), []string{"a"})
		} else {
			tellsNot(t, "too deep", list, impl.Digest(s))
		}
	}
	wanted := digestsOf(list)
	reaches(t, "a deep chain", list, []int64{top}, wanted)
}

// A few texts tell many leaves: 4 of one, 4 times, 3 times over.
func TestToldOfAsManyLeavesAsThereMayBeAndOneMore(t *testing.T) {
	leaf := impl.Digest("\x00a")
	four := branchText(leaf, leaf, leaf, leaf)
	d4 := impl.Digest(four)
	sixteen := branchText(d4, d4, d4, d4)
	d16 := impl.Digest(sixteen)
	whole := branchText(d16, d16, d16, d16)
	d64 := impl.Digest(whole)
	texts := []string{"\x00a", four, sixteen, whole}
	for _, c := range []struct {
		children []int64
		leaves   int
	}{
		{[]int64{d64}, 64},
		{[]int64{d16, d16, d16, d16}, 64},
		{[]int64{leaf, d16}, 17},
		{[]int64{d16, d4, leaf}, 21},
		{[]int64{d64, leaf}, 65},
		{[]int64{leaf, d64}, 65},
		{[]int64{d64, d4}, 68},
		{[]int64{d16, d16, d64}, 96},
		{[]int64{d64, d64, d64, d64}, 256},
	} {
		s := branchText(c.children...)
		list := storeOf(t, append(slices.Clone(texts), s)...)
		if c.leaves <= mostLeaves {
			tells(t, "leaves enough", list, impl.Digest(s), slices.Repeat([]string{"a"}, c.leaves))
		} else {
			tellsNot(t, "too many leaves", list, impl.Digest(s))
		}
		toldRight(t, "leaves", list, impl.Digest(s))
	}
	// 63 leaves and one, two, three more, in one branch.
	all, root := impl.Grown(chunksOf(63))
	for extra := 1; extra < mostChildren; extra++ {
		s := branchText(append([]int64{root}, slices.Repeat([]int64{leaf}, extra)...)...)
		list := storeOf(t, append(all, "\x00a", s)...)
		if extra == 1 {
			tells(t, "63 and one", list, impl.Digest(s), append(chunksOf(63), "a"))
		} else {
			tellsNot(t, "63 and more", list, impl.Digest(s))
		}
	}
	// Deep and wide at once: 4096 leaves, 6 deep.
	most := []string{"\x00a"}
	d := leaf
	for range deepest {
		s := branchText(d, d, d, d)
		most = append(most, s)
		d = impl.Digest(s)
	}
	tellsNot(t, "very many leaves", storeOf(t, most...), d)
}

func TestToldAndReachOfABranchThatComesToItself(t *testing.T) {
	for _, c := range []struct {
		digest        int64
		ahead, behind []int64
	}{
		{5, []int64{5}, nil},
		{5, nil, []int64{5}},
		{1, []int64{1}, nil},
		{greatestDigest, []int64{greatestDigest}, []int64{greatestDigest}},
		{1234567, nil, []int64{1234567, 1234567}},
	} {
		texts := branchTo(c.digest, c.ahead, c.behind)
		if impl.Digest(texts[0]) != c.digest {
			t.Fatalf("the test's own branch has the digest %d, not %d", impl.Digest(texts[0]), c.digest)
		}
		above := branchText(impl.Digest(texts[1]), c.digest)
		list := storeOf(t, append(texts, above)...)
		tellsNot(t, "a branch that comes to itself", list, c.digest)
		tellsNot(t, "one over it", list, impl.Digest(above))
		tells(t, "a leaf of it", list, impl.Digest(texts[1]), []string{texts[1][1:]})
		wanted := []int64{c.digest, impl.Digest(texts[1]), impl.Digest(texts[2])}
		slices.Sort(wanted)
		reaches(t, "a branch that comes to itself", list, []int64{c.digest}, wanted)
		reachRight(t, "one over it", list, []int64{impl.Digest(above)})
	}
}

func TestToldAndReachOfBranchesThatComeToEachOther(t *testing.T) {
	texts := knot()
	if impl.Digest(texts[0]) != 1111 || impl.Digest(texts[3]) != 2222 {
		t.Fatal("the test's own branches have other digests")
	}
	list := storeOf(t, texts...)
	wanted := digestsOf(list)
	for _, root := range []int64{1111, 2222} {
		tellsNot(t, "branches that come to each other", list, root)
		reaches(t, "branches that come to each other", list, []int64{root}, wanted)
		for _, s := range texts {
			without := impl.Drop(list, []int64{impl.Digest(s)})
			tellsNot(t, "without one", without, root)
			reachRight(t, "without one", without, []int64{root})
		}
	}
	reaches(t, "both", list, []int64{2222, 1111, 2222}, wanted)
	// To one digest by two ways: it is told twice, and reached once.
	leaf := impl.Digest("\x00a")
	left, right := branchText(leaf, leaf), branchText(leaf)
	top := branchText(impl.Digest(left), impl.Digest(right), leaf)
	list = storeOf(t, "\x00a", left, right, top)
	tells(t, "by some ways", list, impl.Digest(top), []string{"a", "a", "a", "a"})
	reaches(t, "by some ways", list, []int64{impl.Digest(top)}, digestsOf(list))
}

func TestReachIsWhatTheDocumentTells(t *testing.T) {
	all, root := impl.Grown([]string{"ab", "cd"})
	list := storeOf(t, append(all, "korseta", "\x00x", branchText(5, 3), branchText(1, 2, 3, 4, 5))...)
	ab, cd, x := int64(426182661), int64(428182669), impl.Digest("\x00x")
	side, five := impl.Digest(branchText(5, 3)), impl.Digest(branchText(1, 2, 3, 4, 5))
	for _, c := range []struct {
		why           string
		roots, wanted []int64
	}{
		{"no roots", nil, nil},
		{"no roots", []int64{}, nil},
		{"a tree", []int64{root}, []int64{root, ab, cd}},
		{"a tree twice", []int64{root, root}, []int64{root, ab, cd}},
		{"a leaf", []int64{cd}, []int64{cd}},
		{"leaves, falling", []int64{cd, ab, cd}, []int64{ab, cd}},
		{"a tree and its leaves", []int64{cd, root, ab}, []int64{root, ab, cd}},
		{"its leaves and a tree", []int64{ab, cd, root}, []int64{root, ab, cd}},
		{"neither", []int64{1}, []int64{1}},
		{"a branch of five", []int64{five}, []int64{five}},
		{"a branch over what is not there", []int64{side}, []int64{3, 5, side}},
		{"not there", []int64{7}, []int64{7}},
		{"not there, falling, twice", []int64{9, 7, 9, 8, 7}, []int64{7, 8, 9}},
		{"0 and below", []int64{0, -5, math.MinInt64, 0}, []int64{math.MinInt64, -5, 0}},
		{"greater than a digest", []int64{math.MaxInt64, 2147483647, greatestDigest}, []int64{greatestDigest, 2147483647, math.MaxInt64}},
	} {
		reaches(t, c.why, list, c.roots, c.wanted)
		reachRight(t, c.why, list, c.roots)
	}
	wanted := []int64{root, side, x, ab, cd, 3, 5, 11}
	slices.Sort(wanted)
	orders([]int64{root, side, x, 11}, func(roots []int64) { reaches(t, "in any order", list, roots, wanted) })
	for _, store := range [][]impl.Blob{nil, {}} {
		reaches(t, "an empty store", store, nil, nil)
		reaches(t, "an empty store", store, []int64{9, 7, 9, -1, root}, []int64{-1, 7, 9, root})
	}
}

// Promise 8: Reach has the roots, and goes on from each to its Children, and to nothing else.
func TestReachGoesOnFromEachToItsChildren(t *testing.T) {
	for i, list := range someTrees(t) {
		there := digestsOf(list)
		for _, roots := range [][]int64{nil, there, shuffled(there, uint32(i))[:len(there)/3], strangers(list), append(shuffled(there, 5)[:min(len(there), 2)], 1, 7, -1)} {
			all := impl.Reach(list, roots)
			from := map[int64]bool{}
			for _, d := range roots {
				from[d] = true
			}
			for at, d := range all {
				if at > 0 && all[at-1] >= d {
					t.Fatalf("Reach of %v does not rise: %v", roots, all)
				}
				s, _ := impl.Get(list, d)
				children, _ := impl.Children(s)
				for _, child := range children {
					from[child] = true
					if _, is := slices.BinarySearch(all, child); !is {
						t.Fatalf("Reach of %v has %d, and not its child %d", roots, d, child)
					}
				}
			}
			for _, d := range roots {
				if _, is := slices.BinarySearch(all, d); !is {
					t.Fatalf("Reach has not the root %d", d)
				}
			}
			for _, d := range all {
				if !from[d] {
					t.Fatalf("Reach of %v has %d, which is no root and no child", roots, d)
				}
			}
			reaches(t, "Reach of Reach", list, all, all)
			reachRight(t, "a store", list, roots)
		}
		for _, d := range there {
			reachRight(t, "one root", list, []int64{d})
		}
	}
}

func TestToldOfStores(t *testing.T) {
	told, not := 0, 0
	for _, list := range someTrees(t) {
		for _, d := range append(digestsOf(list), strangers(list)...) {
			toldRight(t, "a store", list, d)
			if _, is := impl.Told(list, d); is {
				told++
			} else {
				not++
			}
		}
	}
	if told < 500 || not < 500 {
		t.Errorf("of the test's own stores, %d are told and %d are not: too few", told, not)
	}
}

// What is Told reaches all it is told of, and those Blobs alone tell it.
func TestWhatIsReachedTells(t *testing.T) {
	for _, list := range someTrees(t) {
		for _, d := range digestsOf(list) {
			chunks, is := impl.Told(list, d)
			if !is {
				continue
			}
			reached := impl.Reach(list, []int64{d})
			if missing := impl.Missing(list, reached); len(missing) != 0 {
				t.Fatalf("%d is told, and %v of it is not there", d, missing)
			}
			alone := impl.Drop(list, missingFrom(digestsOf(list), reached))
			tells(t, "what is reached alone", alone, d, chunks)
			for _, gone := range reached {
				tellsNot(t, "without one that is reached", impl.Drop(alone, []int64{gone}), d)
			}
		}
	}
}

// missingFrom are those of all that are not among some, which rise.
func missingFrom(all, some []int64) []int64 {
	var others []int64
	for _, d := range all {
		if _, is := slices.BinarySearch(some, d); !is {
			others = append(others, d)
		}
	}
	return others
}

func TestReachOfVeryManyRoots(t *testing.T) {
	all, root := impl.Grown(chunksOf(64))
	list := storeOf(t, all...)
	var roots, wanted []int64
	for i := range int64(200000) {
		roots = append(roots, -i, -i)
		wanted = append(wanted, i-199999)
	}
	reaches(t, "very many", list, append(roots, root), append(wanted, digestsOf(list)...))
	reaches(t, "very many, and nothing is there", nil, roots, wanted)
}

func TestToldAndReachOfWhatIsNoStore(t *testing.T) {
	lists := wrongStores()
	tree, root := impl.Grown([]string{"a", "b", "c", "d", "e"})
	store := storeOf(t, tree...)
	for at := range store {
		lists = append(lists, spoiled(store, at)...)
	}
	for _, w := range lists {
		some := []int64{0, 1, -1, root}
		for i, b := range w.list {
			if i < 3 || i > len(w.list)-3 {
				some = append(some, b.Digest)
			}
		}
		for _, d := range some {
			tellsNot(t, w.why, w.list, d)
			reaches(t, w.why, w.list, []int64{d}, nil)
		}
		reaches(t, w.why, w.list, some, nil)
		reaches(t, w.why, w.list, nil, nil)
	}
}

// A tree in a store of MaxBlobs Blobs is told, in a list of one more it is not.
func TestToldAndReachInAFullStoreAndInMore(t *testing.T) {
	chunks := chunksOf(mostLeaves)
	tree, root := impl.Grown(chunks)
	others := numbersOf(impl.MaxBlobs+1-len(tree), 6)
	more := blobsOf(append(tree, others...)...)
	for _, s := range []string{others[0], others[100], others[len(others)-1]} {
		full := dropOf(more, []int64{impl.Digest(s)})
		tells(t, "a full one", full, root, chunks)
		reachRight(t, "a full one", full, []int64{root})
	}
	tellsNot(t, "one of more", more, root)
	reaches(t, "one of more", more, []int64{root}, nil)
}

func TestGrowingLeavesItsArguments(t *testing.T) {
	for _, given := range append(chunkLists(), nil, chunksOf(65), []string{mixed(chunkRoom+1, 1), "a"}) {
		var chunks []string
		var rows, pictures [][]byte
		for _, chunk := range given {
			row, picture := roomy([]byte(chunk), '\x2a')
			chunks = append(chunks, over(row))
			rows, pictures = append(rows, row), append(pictures, picture)
		}
		list, picture := roomy(chunks, "filler")
		impl.Grown(list)
		for i := range list {
			impl.Leaf(list[i])
			impl.Children(list[i])
			stays(t, "a chunk", rows[i], pictures[i])
		}
		stays(t, "the chunks", list, picture)
	}
	for _, given := range [][]int64{nil, {}, {5}, {5, 300}, {3, 2, 1}, {1, greatestDigest, 300, 70000}, {1, 2, 3, 4, 5}, {0}, {5, -1}} {
		digests, picture := roomy(given, 42)
		impl.Branch(digests)
		stays(t, "the digests", digests, picture)
		row, pictureOfText := roomy([]byte(branchText(given...)), '\x2a')
		impl.Children(over(row))
		stays(t, "a branch", row, pictureOfText)
	}
}

func TestTellingLeavesItsArguments(t *testing.T) {
	for _, given := range append(someTrees(t), mixedLists()...) {
		blobs, rows, pictures := overBlobs(given)
		list, picture := roomy(blobs, impl.Blob{Digest: 7, Text: "filler"})
		some := digestsOf(given)
		roots, pictureOfRoots := roomy(append(shuffled(some, 3)[:min(len(some), 9)], 5, -5, 5, 0), 42)
		for _, root := range roots {
			impl.Told(list, root)
			impl.Reach(list, []int64{root})
		}
		impl.Reach(list, roots)
		impl.Reach(list, roots[:1])
		stays(t, "the list", list, picture)
		stays(t, "the roots", roots, pictureOfRoots)
		for i := range rows {
			stays(t, "a Blob's text", rows[i], pictures[i])
		}
	}
}

// An argument may be a piece of a greater one, the rest of which lies in the room behind it.
func TestTreesDoNotLookIntoTheRoomBehind(t *testing.T) {
	chunks := chunksOf(64)
	for _, size := range []int{1, 2, 4, 5, 16, 17, 63} {
		grows(t, chunks[:size])
	}
	growsNot(t, "none", chunks[:0])
	digests := []int64{5, 300, 7, 1, 9}
	for size := 1; size <= mostChildren; size++ {
		branchIs(t, digests[:size], branchText(digests[:size]...))
	}
	if s := impl.Branch(digests[:0]); s != "" {
		t.Errorf("Branch of none, with others behind, is %q", s)
	}
	row := []byte(branchText(5, 300) + "behind")
	if children, is := impl.Children(over(row[:5])); !is || !slices.Equal(children, []int64{5, 300}) {
		t.Errorf("Children of a branch, with others behind, is %v, %v", children, is)
	}
	all, root := impl.Grown(chunksOf(9))
	whole := storeOf(t, all...)
	for size := range whole {
		tellsNot(t, "the rest lies behind", whole[:size], root)
		reachRight(t, "the rest lies behind", whole[:size], []int64{root})
		reachRight(t, "the rest of the roots lies behind", whole, digestsOf(whole)[:size])
	}
}

// ownTexts fails where a text of the answer lies in the memory of one of these, or of another text of the answer.
func ownTexts(t *testing.T, what string, answer, others []string) {
	t.Helper()
	whole := answer[:cap(answer)]
	for i, s := range whole {
		for _, other := range others {
			apart(t, what, s, other)
		}
		for _, before := range whole[:i] {
			apart(t, what+", two of one answer", s, before)
		}
	}
}

func TestGrownIsNewMemory(t *testing.T) {
	for _, given := range chunkLists() {
		chunks := slices.Clone(given)
		one, root := impl.Grown(chunks)
		other, _ := impl.Grown(chunks)
		wanted := slices.Clone(other)
		ownTexts(t, "Grown", one, chunks)
		ownTexts(t, "two times Grown", other, one)
		scribble(one, "scribble")
		if again, top := impl.Grown(chunks); !slices.Equal(chunks, given) || !slices.Equal(other, wanted) || !slices.Equal(again, wanted) || top != root {
			t.Fatalf("Grown of %d chunks shares memory with its argument or another answer", len(given))
		}
	}
}

func TestLeafAndBranchAreNewMemory(t *testing.T) {
	for _, chunk := range append(pool(), "", "\x00", "\x01", mixed(chunkRoom, 1)) {
		one, other := impl.Leaf(chunk), impl.Leaf(chunk)
		apart(t, "Leaf and its chunk", one, chunk)
		apart(t, "two times Leaf", one, other)
	}
	for _, digests := range [][]int64{{1}, {5, 300}, {1, 1, 1, 1}, {greatestDigest}} {
		apart(t, "two times Branch", impl.Branch(digests), impl.Branch(digests))
	}
}

func TestChildrenIsNewMemory(t *testing.T) {
	for _, digests := range [][]int64{{1}, {5, 300}, {1, 1, 1, 1}, {greatestDigest, 7, 2}} {
		s := impl.Branch(digests)
		one, _ := impl.Children(s)
		other, _ := impl.Children(s)
		scribble(one, 42)
		if !slices.Equal(other, digests) || s != branchText(digests...) {
			t.Errorf("Children of %q shares memory with its argument or another answer", s)
		}
		branchIs(t, digests, s)
	}
}

func TestToldIsNewMemory(t *testing.T) {
	for _, list := range someTrees(t) {
		picture := slices.Clone(list)
		for _, root := range digestsOf(list) {
			one, is := impl.Told(list, root)
			if !is {
				continue
			}
			other, _ := impl.Told(list, root)
			wanted := slices.Clone(other)
			ownTexts(t, "Told", one, textsIn(list))
			ownTexts(t, "two times Told", other, one)
			scribble(one, "scribble")
			if !slices.Equal(list, picture) || !slices.Equal(other, wanted) {
				t.Fatalf("Told of %d shares memory with its argument or another answer", root)
			}
			tells(t, "once more", list, root, wanted)
		}
	}
}

func TestReachIsNewMemory(t *testing.T) {
	for _, list := range someTrees(t) {
		picture := slices.Clone(list)
		all := digestsOf(list)
		for _, given := range [][]int64{{7}, {3, 5, 9}, all, slices.Clip(all), shuffled(all, 1)} {
			roots := slices.Clone(given)
			one, other := impl.Reach(list, roots), impl.Reach(list, roots)
			wanted := slices.Clone(other)
			scribble(one, 42)
			if !slices.Equal(roots, given) || !slices.Equal(other, wanted) || !slices.Equal(list, picture) || !slices.Equal(impl.Reach(list, roots), wanted) {
				t.Fatalf("Reach of %v shares memory with its argument or another answer", given)
			}
		}
	}
}

// A text of one byte, that a conversion makes, lies where all such texts do.
func TestTreesOfOneByteAreNewMemory(t *testing.T) {
	apart(t, "two times Leaf of nothing", impl.Leaf(""), impl.Leaf(""))
	for b := range 256 {
		chunk := string([]byte{byte(b)})
		one, root := impl.Grown([]string{chunk, chunk, ""})
		list := storeOf(t, one...)
		ownTexts(t, "Grown", one, append(textsIn(list), chunk))
		first, _ := impl.Told(list, root)
		second, _ := impl.Told(list, root)
		ownTexts(t, "Told", first, append(textsIn(list), chunk, impl.Leaf("")))
		ownTexts(t, "two times Told", first, second)
	}
}

func TestTreesKeepNothingFromCallToCall(t *testing.T) {
	all, root := impl.Grown([]string{"ab", "cd"})
	list := storeOf(t, all...)
	for range 3 {
		grows(t, []string{"ab", "cd"})
		growsNot(t, "none", nil)
		branchIs(t, []int64{5, 300}, "\x01\x02\x05\xac\x02")
		tells(t, "a tree", list, root, []string{"ab", "cd"})
		tellsNot(t, "it is in another store", nil, root)
		tellsNot(t, "one is gone", list[:2], root)
		reaches(t, "a tree", list, []int64{root}, []int64{root, 426182661, 428182669})
		reaches(t, "it is in another store", nil, []int64{root}, []int64{root})
		reaches(t, "no roots", list, nil, nil)
	}
}
