package tests

import (
	"math"
	"slices"
	"strconv"
	"strings"
	"testing"

	"loop.example/g00260/impl"
)

// sevenRound is a text that brings an h of 1 to 1 again: with it ahead, any text keeps its Digest.
const sevenRound = "korseta"

// longAs is a text of more than MaxText bytes with the Digest of this one.
func longAs(s string) string {
	return strings.Repeat(sevenRound, impl.MaxText/len(sevenRound)+1) + s
}

// blobsOf are Blobs of these texts, by Digest, as a store has them where no two are alike or Clash.
func blobsOf(texts ...string) []impl.Blob {
	var list []impl.Blob
	for _, s := range texts {
		list = append(list, impl.Blob{Digest: impl.Digest(s), Text: s})
	}
	slices.SortFunc(list, func(a, b impl.Blob) int { return int(a.Digest - b.Digest) })
	return list
}

// numbersOf are this many texts, each of so many bytes, a number ahead in each, of which no two Clash.
func numbersOf(count, size int) []string {
	var list []string
	seen := map[int64]bool{}
	for i := 0; len(list) < count; i++ {
		s := (strconv.Itoa(i) + mixed(size, uint32(i)))[:size]
		if d := impl.Digest(s); !seen[d] {
			seen[d] = true
			list = append(list, s)
		}
	}
	return list
}

// digestsOf are those of the Blobs, in order.
func digestsOf(list []impl.Blob) []int64 {
	var digests []int64
	for _, b := range list {
		digests = append(digests, b.Digest)
	}
	return digests
}

// shown are the first Blobs of a list, and how many it has, for one to read.
func shown(list []impl.Blob) string {
	text := strconv.Itoa(len(list)) + " Blobs"
	for _, b := range list[:min(len(list), 8)] {
		text += " " + strconv.FormatInt(b.Digest, 10) + ":" + strconv.Quote(b.Text[:min(len(b.Text), 40)])
	}
	return text
}

// fullStore is a store of MaxBlobs Blobs with short texts.
func fullStore() []impl.Blob {
	return blobsOf(numbersOf(impl.MaxBlobs, 6)...)
}

// rightStores are stores of all shapes: ordinary ones and edges.
func rightStores() [][]impl.Blob {
	return append(lightStores(), greatestStore())
}

// greatestStore is a store of MaxBlobs Blobs with texts of MaxText bytes.
func greatestStore() []impl.Blob {
	return blobsOf(numbersOf(impl.MaxBlobs, impl.MaxText)...)
}

// lightStores are those of rightStores that are gone through soon.
func lightStores() [][]impl.Blob {
	return [][]impl.Blob{
		nil,
		{},
		blobsOf(""),
		blobsOf("one"),
		blobsOf("\x00"),
		blobsOf("dsnkkkn"),
		blobsOf("", "dsnkkkn"),
		blobsOf("dsnkkko", "a"),
		blobsOf("one", "atuwtwkco"),
		blobsOf("a", "b", "c"),
		blobsOf("a", "b", "c", "d", "", "cellar"),
		blobsOf(plain...),
		blobsOf(allBytes(), mixed(500, 1), "\xff\xfe"),
		blobsOf(mixed(impl.MaxText, 1)),
		blobsOf(mixed(impl.MaxText, 1), mixed(impl.MaxText-1, 2), "", strings.Repeat("\x00", impl.MaxText), longAs("")[:impl.MaxText]),
		blobsOf(numbersOf(40, 9)...),
		fullStore()[1:],
		fullStore(),
	}
}

// A wrongStore is a list that is no store.
type wrongStore struct {
	why  string
	list []impl.Blob
}

// withBlob is the list with another Blob at this place.
func withBlob(list []impl.Blob, at int, b impl.Blob) []impl.Blob {
	other := slices.Clone(list)
	other[at] = b
	return other
}

// spoiled are lists made of a store by one change that leaves no store.
func spoiled(list []impl.Blob, at int) []wrongStore {
	b := list[at]
	var wrong []wrongStore
	for _, d := range []int64{0, -1, b.Digest - 1, b.Digest + 1, -b.Digest, b.Digest + 2147483647, b.Digest - 2147483647, b.Digest + 1<<32, b.Digest + 1<<31, math.MaxInt64, math.MinInt64} {
		wrong = append(wrong, wrongStore{"a digest is not its text's", withBlob(list, at, impl.Blob{Digest: d, Text: b.Text})})
	}
	for _, s := range []string{b.Text + "\x00", b.Text + "a", sevenRound[:6] + b.Text, "no text of it"} {
		wrong = append(wrong, wrongStore{"a text is not its digest's", withBlob(list, at, impl.Blob{Digest: b.Digest, Text: s})})
	}
	wrong = append(wrong,
		wrongStore{"a text is too long", withBlob(list, at, impl.Blob{Digest: b.Digest, Text: longAs(b.Text)})},
		wrongStore{"two are alike", slices.Insert(slices.Clone(list), at, b)},
		wrongStore{"two have one digest", slices.Insert(slices.Clone(list), at, impl.Blob{Digest: b.Digest, Text: sevenRound + b.Text})},
		wrongStore{"a Blob is zero", withBlob(list, at, impl.Blob{})},
		wrongStore{"a zero Blob is ahead", slices.Insert(slices.Clone(list), at, impl.Blob{})},
	)
	for other := range list {
		if other != at && (len(list) < 10 || other == at+1 || other == 0 || other == len(list)-1) {
			swapped := withBlob(list, at, list[other])
			swapped[other] = b
			wrong = append(wrong, wrongStore{"digests do not rise", swapped})
			texts := withBlob(list, at, impl.Blob{Digest: b.Digest, Text: list[other].Text})
			texts[other].Text = b.Text
			wrong = append(wrong, wrongStore{"two texts are the other one's", texts})
			wrong = append(wrong, wrongStore{"two are alike, far apart", withBlob(list, at, list[other])})
		}
	}
	return wrong
}

// wrongStores are lists that are no stores, by all there is to be wrong.
func wrongStores() []wrongStore {
	full := fullStore()
	more := blobsOf(numbersOf(impl.MaxBlobs+1, 6)...)
	wrong := []wrongStore{
		{"one of more than MaxBlobs", more},
		{"one of more than MaxBlobs, which is there twice", append(slices.Clone(full), full[impl.MaxBlobs-1])},
		{"far more than MaxBlobs", blobsOf(numbersOf(3*impl.MaxBlobs, 6)...)},
		{"far more than MaxBlobs, all zero", make([]impl.Blob, 100000)},
		{"all zero", make([]impl.Blob, impl.MaxBlobs)},
		{"the zero Blob", []impl.Blob{{}}},
		{"an h of 0 is not told as 1", []impl.Blob{{Digest: 0, Text: "dsnkkko"}}},
		{"a text of one byte too many", blobsOf(mixed(impl.MaxText+1, 5))},
		{"a text of one byte too many among others", blobsOf("a", mixed(impl.MaxText+1, 5), "b")},
		{"a text of very many bytes", blobsOf("a", strings.Repeat("x", 1000000), "b")},
		{"digests fall", reversedBlobs(blobsOf("a", "b", "c"))},
		{"digests of a full one fall", reversedBlobs(full)},
		{"texts that Clash", blobsOf("laamay", "arvaua")},
		{"texts that Clash, the other way round", blobsOf("arvaua", "laamay")},
	}
	for _, list := range [][]impl.Blob{blobsOf(""), blobsOf("one"), blobsOf("dsnkkkn"), blobsOf("one", "atuwtwkco"), blobsOf("a", "b", "c", "")} {
		for at := range list {
			wrong = append(wrong, spoiled(list, at)...)
		}
	}
	for _, at := range []int{0, 1, 150, 298, 299} {
		for _, w := range spoiled(full, at) {
			wrong = append(wrong, wrongStore{w.why + ", in a full one, at " + strconv.Itoa(at), w.list})
		}
	}
	return wrong
}

func reversedBlobs(list []impl.Blob) []impl.Blob {
	other := slices.Clone(list)
	slices.Reverse(other)
	return other
}

// putOf tells Put of a store, one by one, as the document's words have it, the codes in the order of their names.
func putOf(list []impl.Blob, s string) ([]impl.Blob, int64, int64) {
	d := impl.Digest(s)
	for _, b := range list {
		if b.Text == s {
			return list, d, impl.PtAgain
		}
	}
	for _, b := range list {
		if b.Digest == d {
			return list, 0, impl.PtClash
		}
	}
	if len(list) == impl.MaxBlobs {
		return list, 0, impl.PtFull
	}
	if len(s) > impl.MaxText {
		return list, 0, impl.PtBad
	}
	var with []impl.Blob
	for _, b := range list {
		if b.Digest < d {
			with = append(with, b)
		}
	}
	with = append(with, impl.Blob{Digest: d, Text: s})
	for _, b := range list {
		if b.Digest > d {
			with = append(with, b)
		}
	}
	return with, d, impl.PtNew
}

// dropOf tells Drop of a store, one by one.
func dropOf(list []impl.Blob, digests []int64) []impl.Blob {
	var left []impl.Blob
	for _, b := range list {
		if !slices.Contains(digests, b.Digest) {
			left = append(left, b)
		}
	}
	return left
}

// missingOf tells Missing of a store, one by one.
func missingOf(list []impl.Blob, digests []int64) []int64 {
	var missing []int64
	for _, d := range digests {
		if !slices.Contains(digestsOf(list), d) && !slices.Contains(missing, d) {
			missing = append(missing, d)
		}
	}
	return missing
}

// puts fails where Put is not this list, digest and code, or that list is no store. It answers what Put has told.
func puts(t *testing.T, why string, list []impl.Blob, s string, wanted []impl.Blob, digest, code int64) []impl.Blob {
	t.Helper()
	got, d, k := impl.Put(list, s)
	if d != digest || k != code {
		t.Fatalf("%s: Put of %d bytes, %.40q, into %d Blobs is %d, %d, not %d, %d", why, len(s), s, len(list), d, k, digest, code)
	}
	if !slices.Equal(got, wanted) {
		t.Fatalf("%s: Put of %d bytes, %.40q, into %d Blobs makes %s, not %s", why, len(s), s, len(list), shown(got), shown(wanted))
	}
	return got
}

// putsRight is puts where the document's words are followed one by one.
func putsRight(t *testing.T, list []impl.Blob, s string) []impl.Blob {
	t.Helper()
	wanted, digest, code := putOf(list, s)
	return puts(t, "a store", list, s, wanted, digest, code)
}

// gets fails where Get is not this text and flag.
func gets(t *testing.T, why string, list []impl.Blob, digest int64, wanted string, well bool) {
	t.Helper()
	if s, is := impl.Get(list, digest); s != wanted || is != well {
		t.Fatalf("%s: Get of %d out of %d Blobs is %.40q, %v, not %.40q, %v", why, digest, len(list), s, is, wanted, well)
	}
}

// dropsRight fails where Drop is not the store without these, or Missing not those that are not there.
func dropsRight(t *testing.T, list []impl.Blob, digests []int64) {
	t.Helper()
	left := impl.Drop(list, digests)
	if wanted := dropOf(list, digests); !slices.Equal(left, wanted) {
		t.Fatalf("Drop of %.20v out of %d Blobs is %s, not %s", digests, len(list), shown(left), shown(wanted))
	}
	missing := impl.Missing(list, digests)
	if wanted := missingOf(list, digests); !slices.Equal(missing, wanted) {
		t.Fatalf("Missing of %.20v in %d Blobs is %v, not %v", digests, len(list), missing, wanted)
	}
}

// strangers are digests that the store has not: such as no text has, and neighbours of those that are there.
func strangers(list []impl.Blob) []int64 {
	all := []int64{0, -1, -2, math.MinInt64, math.MinInt64 + 1, math.MaxInt64, math.MaxInt64 - 1, 2147483647, 2147483648, 1 << 32, 1<<32 + 1, 1 << 40, 1, 2, 1000003, greatestDigest}
	for i, b := range list {
		if i < 3 || i > len(list)-3 || i%50 == 0 {
			all = append(all, b.Digest-1, b.Digest+1, -b.Digest, b.Digest+2147483647, b.Digest-2147483647, b.Digest+1<<32, b.Digest-1<<32, b.Digest+1<<31)
		}
	}
	return missingOf(list, all)
}

// shuffled are the items in another order for another seed.
func shuffled[T any](list []T, seed uint32) []T {
	other := slices.Clone(list)
	for i := len(other) - 1; i > 0; i-- {
		seed = seed*1664525 + 1013904223
		j := int(seed>>8) % (i + 1)
		other[i], other[j] = other[j], other[i]
	}
	return other
}

// orders calls see with the items in each order there is.
func orders[T any](list []T, see func([]T)) {
	if len(list) == 0 {
		see(nil)
	}
	for i, item := range list {
		rest := slices.Delete(slices.Clone(list), i, i+1)
		orders(rest, func(others []T) { see(append([]T{item}, others...)) })
	}
}

// putAll puts each text, from an empty store on, and fails where one is not right.
func putAll(t *testing.T, texts []string) []impl.Blob {
	t.Helper()
	var list []impl.Blob
	for _, s := range texts {
		list = putsRight(t, list, s)
	}
	return list
}

func TestTheCodesOfPut(t *testing.T) {
	if impl.PtNew != 0 || impl.PtAgain != 1 || impl.PtClash != 2 || impl.PtFull != 3 || impl.PtBad != 4 || impl.MaxBlobs != 300 {
		t.Error("a code or the limit is not the document's")
	}
}

func TestStoreOkOfStores(t *testing.T) {
	for i, list := range rightStores() {
		if !impl.StoreOk(list) {
			t.Errorf("number %d, a store, is not StoreOk: %s", i, shown(list))
		}
		for _, part := range [][]impl.Blob{list[:len(list)/2], list[len(list)/2:], list[len(list)/3 : len(list)/2]} {
			if !impl.StoreOk(part) {
				t.Errorf("number %d: %d Blobs in a row of a store of %d are not StoreOk", i, len(part), len(list))
			}
		}
	}
}

func TestStoreOkOfWhatIsNoStore(t *testing.T) {
	for _, w := range wrongStores() {
		if impl.StoreOk(w.list) {
			t.Errorf("%s: StoreOk(%s) is true", w.why, shown(w.list))
		}
	}
}

// Of every list of a few Blobs, right ones and wrong ones, in any order.
func TestStoreOkOfEveryShortList(t *testing.T) {
	few := []impl.Blob{{Digest: 1, Text: ""}, {Digest: 1, Text: "korseta"}, {Digest: 1000101, Text: "a"}, {Digest: 1000102, Text: "b"}, {Digest: greatestDigest, Text: "dsnkkkn"}, {}, {Digest: 1000102, Text: "a"}}
	const right = 5
	texts("\x00\x01\x02\x03\x04\x05\x06", 5, func(places string) {
		var list []impl.Blob
		wanted := true
		for i := range len(places) {
			b := few[places[i]]
			wanted = wanted && places[i] < right && (i == 0 || list[i-1].Digest < b.Digest)
			list = append(list, b)
		}
		if impl.StoreOk(list) != wanted {
			t.Fatalf("StoreOk(%s) is %v", shown(list), !wanted)
		}
	})
}

func TestEachFunctionOfWhatIsNoStore(t *testing.T) {
	for _, w := range wrongStores() {
		for _, s := range []string{"", "a", "one", "a new text", "korseta", mixed(impl.MaxText, 1), mixed(impl.MaxText+1, 5), longAs("one")} {
			puts(t, w.why, w.list, s, nil, 0, impl.PtBad)
		}
		some := []int64{0, 1, -1, 7, 1000101}
		for i, b := range w.list {
			if i < 2 || i > len(w.list)-3 {
				some = append(some, b.Digest)
				puts(t, w.why, w.list, b.Text, nil, 0, impl.PtBad)
			}
		}
		for _, d := range some {
			gets(t, w.why, w.list, d, "", false)
		}
		for _, digests := range [][]int64{nil, {}, some, some[:1], digestsOf(w.list)} {
			if left := impl.Drop(w.list, digests); len(left) != 0 {
				t.Errorf("%s: Drop of %d digests is %s", w.why, len(digests), shown(left))
			}
			if missing := impl.Missing(w.list, digests); len(missing) != 0 {
				t.Errorf("%s: Missing of %d digests is %v", w.why, len(digests), missing)
			}
		}
	}
}

func TestPutIsWhatTheDocumentTells(t *testing.T) {
	ab := []impl.Blob{{Digest: 1000101, Text: "a"}, {Digest: 1000102, Text: "b"}}
	clash := []impl.Blob{{Digest: 1040202104, Text: "atuwtwkco"}, {Digest: 1970437566, Text: "one"}}
	most := mixed(impl.MaxText, 1)
	for _, c := range []struct {
		why          string
		list         []impl.Blob
		text         string
		wanted       []impl.Blob
		digest, code int64
	}{
		{"into an empty store", nil, "one", clash[1:], 1970437566, impl.PtNew},
		{"into an empty list", []impl.Blob{}, "one", clash[1:], 1970437566, impl.PtNew},
		{"ahead of another", clash[1:], "atuwtwkco", clash, 1040202104, impl.PtNew},
		{"behind another", ab[:1], "b", ab, 1000102, impl.PtNew},
		{"it is there, the first one", clash, "atuwtwkco", clash, 1040202104, impl.PtAgain},
		{"it is there, the last one", clash, "one", clash, 1970437566, impl.PtAgain},
		{"another text with this digest is there", clash, "qybuogwlf", clash, 0, impl.PtClash},
		{"an empty text", nil, "", []impl.Blob{{Digest: 1}}, 1, impl.PtNew},
		{"an empty text ahead of others", ab, "", append([]impl.Blob{{Digest: 1}}, ab...), 1, impl.PtNew},
		{"an empty text that is there", []impl.Blob{{Digest: 1}}, "", []impl.Blob{{Digest: 1}}, 1, impl.PtAgain},
		{"a text with the digest of an empty one", []impl.Blob{{Digest: 1}}, "korseta", []impl.Blob{{Digest: 1}}, 0, impl.PtClash},
		{"an empty text, whose digest another one has", []impl.Blob{{Digest: 1, Text: "korseta"}}, "", []impl.Blob{{Digest: 1, Text: "korseta"}}, 0, impl.PtClash},
		{"an h of 0", nil, "dsnkkko", []impl.Blob{{Digest: 1, Text: "dsnkkko"}}, 1, impl.PtNew},
		{"an h of 0, and an h of 1 is there", []impl.Blob{{Digest: 1}}, "dsnkkko", []impl.Blob{{Digest: 1}}, 0, impl.PtClash},
		{"the greatest digest", ab, "dsnkkkn", append(slices.Clone(ab), impl.Blob{Digest: greatestDigest, Text: "dsnkkkn"}), greatestDigest, impl.PtNew},
		{"MaxText bytes", nil, most, blobsOf(most), impl.Digest(most), impl.PtNew},
		{"MaxText bytes that are there", blobsOf(most), most, blobsOf(most), impl.Digest(most), impl.PtAgain},
		{"one byte more", nil, most + "x", nil, 0, impl.PtBad},
		{"one byte more, into a store", ab, most + "x", ab, 0, impl.PtBad},
		{"a long text", ab, strings.Repeat("x", 1000000), ab, 0, impl.PtBad},
		{"a long text with the digest of one that is not there", ab, longAs("c"), ab, 0, impl.PtBad},
		{"a long text with a digest that is there", ab, longAs("a"), ab, 0, impl.PtClash},
		{"a long text with the digest of an empty one", []impl.Blob{{Digest: 1}}, longAs(""), []impl.Blob{{Digest: 1}}, 0, impl.PtClash},
	} {
		puts(t, c.why, c.list, c.text, c.wanted, c.digest, c.code)
	}
}

func TestPutIntoAFullStore(t *testing.T) {
	full := fullStore()
	all := numbersOf(impl.MaxBlobs+1, 6)
	last := all[impl.MaxBlobs]
	for _, list := range [][]impl.Blob{full, blobsOf(all[1:]...)} {
		for _, b := range list {
			puts(t, "one that is there", list, b.Text, list, b.Digest, impl.PtAgain)
			puts(t, "one of another text", list, sevenRound+b.Text, list, 0, impl.PtClash)
		}
	}
	puts(t, "one more", full, last, full, 0, impl.PtFull)
	puts(t, "an empty text", full, "", full, 0, impl.PtFull)
	puts(t, "the greatest digest", full, "dsnkkkn", full, 0, impl.PtFull)
	puts(t, "one more of MaxText bytes", full, mixed(impl.MaxText, 1), full, 0, impl.PtFull)
	puts(t, "full, and too long", full, mixed(impl.MaxText+1, 1), full, 0, impl.PtFull)
	puts(t, "full, and far too long", full, strings.Repeat("x", 1000000), full, 0, impl.PtFull)
	puts(t, "full, too long, and another text with this digest", full, longAs(full[7].Text), full, 0, impl.PtClash)
	for _, at := range []int{0, 1, 150, 298, 299} {
		less := slices.Delete(slices.Clone(full), at, at+1)
		puts(t, "one less than full", less, full[at].Text, full, full[at].Digest, impl.PtNew)
		puts(t, "one less than full, and too long", less, mixed(impl.MaxText+1, 1), less, 0, impl.PtBad)
		puts(t, "one less than full, and another text with this digest", less, sevenRound+less[at/2].Text, less, 0, impl.PtClash)
		putsRight(t, less, last)
	}
	greatest := greatestStore()
	for _, s := range []string{greatest[0].Text, greatest[299].Text, sevenRound + greatest[7].Text, mixed(impl.MaxText, 1), mixed(impl.MaxText+1, 1), ""} {
		putsRight(t, greatest, s)
		putsRight(t, greatest[1:], s)
	}
	more := blobsOf(all...)
	for _, s := range []string{last, more[0].Text, more[impl.MaxBlobs].Text, sevenRound + last, "new", ""} {
		puts(t, "a list of more", more, s, nil, 0, impl.PtBad)
	}
}

func TestPutOfEveryShortScript(t *testing.T) {
	few := []string{"", "korseta", "a", "b", "korsetaa", "dsnkkkn", longAs("a"), longAs("c")}
	var script func(list []impl.Blob, steps int)
	script = func(list []impl.Blob, steps int) {
		if !impl.StoreOk(list) {
			t.Fatalf("Put has made %s, which is no store", shown(list))
		}
		if steps == 0 {
			return
		}
		for _, s := range few {
			script(putsRight(t, list, s), steps-1)
		}
	}
	script(nil, 5)
}

// Promise 7: what is Put is got, and every other Blob as before.
func TestWhatIsPutIsGot(t *testing.T) {
	news := append(pool(), numbersOf(20, 7)...)
	news = append(news, mixed(impl.MaxText, 9), mixed(impl.MaxText+1, 9), longAs("a"), "one", "cellar")
	for _, before := range lightStores() {
		for _, s := range news {
			after, d, code := impl.Put(before, s)
			if taken := code == impl.PtNew || code == impl.PtAgain; taken {
				gets(t, "what is Put", after, d, s, true)
			} else if d != 0 || len(after) != len(before) {
				t.Fatalf("Put of %.40q tells %d and %d, and there are %d Blobs, not %d", s, code, d, len(after), len(before))
			}
			if code == impl.PtNew {
				gets(t, "ahead of Put", before, d, "", false)
			}
			for i, b := range before {
				if i < 20 || i%60 == 59 {
					gets(t, "another Blob behind Put", after, b.Digest, b.Text, true)
				}
			}
			if !impl.StoreOk(after) || len(impl.Missing(after, digestsOf(before))) != 0 {
				t.Fatalf("Put of %.40q loses a Blob, or makes no store", s)
			}
		}
	}
}

// Promise 7: what has another's Digest is not taken.
func TestWhatHasAnothersDigestIsNotTaken(t *testing.T) {
	for _, group := range clashing {
		for _, first := range group {
			for _, second := range group {
				if first == second {
					continue
				}
				for _, others := range [][]string{nil, {"cellar"}, {"cellar", "b", "ab", "ba"}, numbersOf(impl.MaxBlobs-1, 6)} {
					list := putsRight(t, blobsOf(others...), first)
					after := puts(t, "another's digest", list, second, list, 0, impl.PtClash)
					gets(t, "the first one stays", after, impl.Digest(second), first, true)
					// Without the first one, the second one is taken.
					puts(t, "none's digest", impl.Drop(after, []int64{impl.Digest(first)}), second, blobsOf(append(slices.Clone(others), second)...), impl.Digest(second), impl.PtNew)
				}
			}
		}
	}
}

// Promise 7: in any order the same store, and twice as once.
func TestTextsThatDoNotClashMakeOneStoreInAnyOrder(t *testing.T) {
	for _, few := range [][]string{{"a"}, {"a", "b"}, {"a", "b", ""}, {"cellar", "dsnkkkn", "korseta", "one"}, {"", "\x00", "\xff", "a", "b", "dsnkkkn"}} {
		wanted := blobsOf(few...)
		orders(few, func(list []string) {
			once := putAll(t, list)
			if !slices.Equal(once, wanted) {
				t.Fatalf("Put of %q one by one makes %s, not %s", list, shown(once), shown(wanted))
			}
			if twice := putAll(t, append(slices.Clone(list), list...)); !slices.Equal(twice, wanted) {
				t.Fatalf("Put of %q twice makes %s, not %s", list, shown(twice), shown(wanted))
			}
			if twice := putAll(t, slices.Concat(list[:1], list, list[:1])); !slices.Equal(twice, wanted) {
				t.Fatalf("Put of %q, the first one three times, makes %s, not %s", list, shown(twice), shown(wanted))
			}
		})
	}
	for _, many := range [][]string{plain, numbersOf(60, 8), numbersOf(impl.MaxBlobs, 6)} {
		wanted := blobsOf(many...)
		for seed := range uint32(5) {
			if got := putAll(t, shuffled(many, seed)); !slices.Equal(got, wanted) {
				t.Fatalf("Put of %d texts, order %d, makes %d Blobs", len(many), seed, len(got))
			}
			if got := putAll(t, shuffled(append(slices.Clone(many), many...), seed)); !slices.Equal(got, wanted) {
				t.Fatalf("Put of %d texts twice, order %d, makes %d Blobs", len(many), seed, len(got))
			}
		}
	}
}

func TestGetOfDigestsThatAreThereAndThatAreNot(t *testing.T) {
	for _, list := range rightStores() {
		for i, b := range list {
			if i < 20 || i%30 == 29 || len(b.Text) < 100 {
				gets(t, "it is there", list, b.Digest, b.Text, true)
			}
		}
		for _, d := range strangers(list) {
			gets(t, "it is not there", list, d, "", false)
		}
	}
	gets(t, "an empty text is there", []impl.Blob{{Digest: 1}}, 1, "", true)
	gets(t, "another one is there", []impl.Blob{{Digest: 1, Text: "korseta"}}, 1, "korseta", true)
	gets(t, "none is there", nil, 1, "", false)
	gets(t, "none is there", nil, 0, "", false)
}

func TestDropAndMissingAreWhatTheDocumentTells(t *testing.T) {
	list := blobsOf("a", "b", "cellar")
	a, b, c := int64(1000101), int64(1000102), int64(1803661083)
	for _, w := range []struct {
		why           string
		digests       []int64
		left, missing []int64
	}{
		{"none", nil, []int64{a, b, c}, nil},
		{"an empty list", []int64{}, []int64{a, b, c}, nil},
		{"the first one", []int64{a}, []int64{b, c}, nil},
		{"one between", []int64{b}, []int64{a, c}, nil},
		{"the last one", []int64{c}, []int64{a, b}, nil},
		{"two", []int64{a, c}, []int64{b}, nil},
		{"two, falling", []int64{c, a}, []int64{b}, nil},
		{"all", []int64{a, b, c}, nil, nil},
		{"all, falling", []int64{c, b, a}, nil, nil},
		{"all, twice", []int64{c, b, a, a, b, c}, nil, nil},
		{"one twice", []int64{b, b}, []int64{a, c}, nil},
		{"one that is not there", []int64{5}, []int64{a, b, c}, []int64{5}},
		{"0", []int64{0}, []int64{a, b, c}, []int64{0}},
		{"one below 0", []int64{-5}, []int64{a, b, c}, []int64{-5}},
		{"such as are none's digest", []int64{math.MaxInt64, -a, math.MinInt64, 2147483647}, []int64{a, b, c}, []int64{math.MaxInt64, -a, math.MinInt64, 2147483647}},
		{"that are not there, falling, each twice", []int64{9, 5, 9, -5, 5, -5}, []int64{a, b, c}, []int64{9, 5, -5}},
		{"that are not there, rising, each twice", []int64{-5, -5, 5, 5, 9, 9}, []int64{a, b, c}, []int64{-5, 5, 9}},
		{"of both kinds", []int64{7, b, 3, b, 7, a, 3, 5}, []int64{c}, []int64{7, 3, 5}},
		{"of both kinds, those that are there at the ends", []int64{c, 7, 3, 7, a}, []int64{b}, []int64{7, 3}},
	} {
		if left := digestsOf(impl.Drop(list, w.digests)); !slices.Equal(left, w.left) {
			t.Errorf("%s: Drop leaves %v, not %v", w.why, left, w.left)
		}
		if missing := impl.Missing(list, w.digests); !slices.Equal(missing, w.missing) {
			t.Errorf("%s: Missing is %v, not %v", w.why, missing, w.missing)
		}
		dropsRight(t, list, w.digests)
		dropsRight(t, nil, w.digests)
	}
}

func TestDropAndMissingOfEveryShortListOfDigests(t *testing.T) {
	list := blobsOf("", "a", "dsnkkkn")
	few := []int64{1, 1000101, greatestDigest, 0, -1, 1000102}
	texts("\x00\x01\x02\x03\x04\x05", 5, func(places string) {
		var digests []int64
		for _, i := range []byte(places) {
			digests = append(digests, few[i])
		}
		dropsRight(t, list, digests)
	})
}

func TestDropAndMissingOfStores(t *testing.T) {
	for i, list := range rightStores() {
		there, not := digestsOf(list), strangers(list)
		for _, digests := range [][]int64{nil, there, not, slices.Concat(not, there), slices.Concat(there, not, there), slices.Repeat(not, 3), there[:len(there)/2], there[len(there)/2:]} {
			dropsRight(t, list, digests)
			dropsRight(t, list, shuffled(digests, uint32(i)))
		}
		if left := impl.Drop(list, there); len(left) != 0 {
			t.Errorf("Drop of all %d leaves %d", len(there), len(left))
		}
		if left := impl.Drop(list, not); !slices.Equal(left, list) {
			t.Errorf("Drop of such as are not there leaves %d of %d", len(left), len(list))
		}
	}
}

// veryMany are numbers that no text has as its Digest, some of them twice; and each of them once.
func veryMany() ([]int64, []int64) {
	var many, once []int64
	for i := range int64(150000) {
		many = append(many, -i, i+greatestDigest+1, -i)
		once = append(once, -i, i+greatestDigest+1)
	}
	return many, once
}

func TestDropAndMissingOfManyDigests(t *testing.T) {
	full := fullStore()
	many, wanted := veryMany()
	for _, list := range [][]impl.Blob{nil, full} {
		if missing := impl.Missing(list, slices.Concat(many, digestsOf(list), many)); !slices.Equal(missing, wanted) {
			t.Errorf("Missing of very many digests in %d Blobs is %d, not %d", len(list), len(missing), len(wanted))
		}
		if left := impl.Drop(list, many); !slices.Equal(left, list) {
			t.Errorf("Drop of very many digests that are not there leaves %d of %d", len(left), len(list))
		}
		if left := impl.Drop(list, append(many, digestsOf(list)...)); len(left) != 0 {
			t.Errorf("Drop of very many digests, all that is there among them, leaves %d", len(left))
		}
	}
}

// What is Dropped is Missing and not got, what is left is got, and Put brings it back.
func TestPutBringsBackWhatIsDropped(t *testing.T) {
	for _, list := range lightStores() {
		for seed := range uint32(4) {
			gone := shuffled(digestsOf(list), seed)[:len(list)/2]
			left := impl.Drop(list, gone)
			if !impl.StoreOk(left) || !slices.Equal(impl.Missing(left, digestsOf(list)), missingOf(left, digestsOf(list))) || !slices.Equal(impl.Missing(left, gone), gone) {
				t.Fatalf("Drop of %d out of %d: what is left is no store, or what is gone is not Missing", len(gone), len(list))
			}
			for _, b := range list {
				if slices.Contains(gone, b.Digest) {
					gets(t, "it is dropped", left, b.Digest, "", false)
					left = putsRight(t, left, b.Text)
				}
				gets(t, "it is left, or back", left, b.Digest, b.Text, true)
			}
			if !slices.Equal(left, list) {
				t.Fatalf("Put of what was Dropped makes %d Blobs, not the %d there were", len(left), len(list))
			}
		}
	}
}

// overBlobs are Blobs whose texts lie on rows of bytes with room behind, and those rows with their pictures.
func overBlobs(list []impl.Blob) ([]impl.Blob, [][]byte, [][]byte) {
	var blobs []impl.Blob
	var rows, pictures [][]byte
	for _, b := range list {
		row, picture := roomy([]byte(b.Text), '\x2a')
		blobs = append(blobs, impl.Blob{Digest: b.Digest, Text: over(row)})
		rows, pictures = append(rows, row), append(pictures, picture)
	}
	return blobs, rows, pictures
}

// mixedLists are stores and lists that are none.
func mixedLists() [][]impl.Blob {
	lists := rightStores()
	for i, w := range wrongStores() {
		if len(w.list) < 10 || i%10 == 0 {
			lists = append(lists, w.list)
		}
	}
	return lists
}

func TestBlobsLeaveTheirArguments(t *testing.T) {
	for _, given := range mixedLists() {
		blobs, rows, pictures := overBlobs(given)
		list, picture := roomy(blobs, impl.Blob{Digest: 7, Text: "filler"})
		some := digestsOf(given)
		digests, pictureOfDigests := roomy(append(shuffled(some, 3)[:len(some)/2], 5, -5, 5, 0), 42)
		news := []string{"", "a", "new", "korseta", "dsnkkkn", mixed(impl.MaxText+1, 1)}
		for i, b := range given {
			if i < 3 {
				news = append(news, b.Text, sevenRound+b.Text)
			}
		}
		impl.StoreOk(list)
		for _, s := range news {
			row, pictureOfText := roomy([]byte(s), '\x2a')
			impl.Put(list, over(row))
			stays(t, "Put's text", row, pictureOfText)
		}
		for _, d := range digests {
			impl.Get(list, d)
		}
		impl.Drop(list, digests)
		impl.Drop(list, some)
		impl.Missing(list, digests)
		stays(t, "the list", list, picture)
		stays(t, "the digests", digests, pictureOfDigests)
		for i := range rows {
			stays(t, "a Blob's text", rows[i], pictures[i])
		}
	}
}

// A list may be a piece of a greater one, whose Blobs lie in the room behind it.
func TestBlobsDoNotLookIntoTheRoomBehind(t *testing.T) {
	for _, whole := range [][]impl.Blob{blobsOf("a", "b", "cellar", "dsnkkkn"), fullStore()} {
		picture := slices.Clone(whole)
		for _, size := range []int{0, 1, 2, len(whole) - 1} {
			list := whole[:size]
			for _, b := range whole[size:min(len(whole), size+3)] {
				gets(t, "it lies behind", list, b.Digest, "", false)
				if missing := impl.Missing(list, []int64{b.Digest}); len(missing) != 1 {
					t.Errorf("Missing of what lies behind is %v", missing)
				}
				putsRight(t, list, b.Text)
				putsRight(t, list, sevenRound+b.Text)
			}
			dropsRight(t, list, digestsOf(whole))
			dropsRight(t, list, digestsOf(whole)[:1])
			if !slices.Equal(whole, picture) {
				t.Fatalf("what lies behind %d of %d Blobs is changed", size, len(whole))
			}
		}
	}
	digests := []int64{1000102, 5, 1000101, 9}
	list := blobsOf("a", "b")
	if left := impl.Drop(list, digests[:1]); len(left) != 1 || left[0].Text != "a" {
		t.Errorf("Drop of one digest, with another behind, leaves %s", shown(left))
	}
	if missing := impl.Missing(list, digests[:2]); len(missing) != 1 || missing[0] != 5 {
		t.Errorf("Missing of two digests, with others behind, is %v", missing)
	}
}

// owns fails where a text of the answer, or one in the room behind it, lies in the memory of one of these, or of another text of the answer.
func owns(t *testing.T, what string, answer []impl.Blob, others []string) {
	t.Helper()
	whole := answer[:cap(answer)]
	for i, b := range whole {
		for _, s := range others {
			apart(t, what, b.Text, s)
		}
		for _, before := range whole[:i] {
			apart(t, what+", two of one answer", b.Text, before.Text)
		}
	}
}

// textsIn are those of the Blobs.
func textsIn(list []impl.Blob) []string {
	var texts []string
	for _, b := range list {
		texts = append(texts, b.Text)
	}
	return texts
}

func TestPutIsNewMemory(t *testing.T) {
	for _, list := range rightStores() {
		picture := slices.Clone(list)
		news := []string{strings.Clone("new"), "", "b", "\xfe", longAs("c")}
		if len(list) > 0 {
			news = append(news, list[0].Text, sevenRound+list[len(list)/2].Text, list[len(list)-1].Text)
		}
		for _, s := range news {
			one, d, code := impl.Put(list, s)
			other, _, _ := impl.Put(list, s)
			wanted := slices.Clone(other)
			owns(t, "Put", one, append(textsIn(list), s))
			owns(t, "two times Put", other, textsIn(one))
			scribble(one, impl.Blob{Digest: 42, Text: "scribble"})
			if !slices.Equal(list, picture) || !slices.Equal(other, wanted) {
				t.Fatalf("Put, with code %d: the store shares memory with its argument or another answer", code)
			}
			puts(t, "once more", list, s, wanted, d, code)
		}
	}
}

// As it is, but in memory of its own: the list is there, full, and cut to its length.
func TestPutThatLeavesTheStoreAsItIsIsNewMemory(t *testing.T) {
	full := slices.Clip(fullStore())
	small := slices.Clip(blobsOf("a", "b", "cellar"))
	for _, c := range []struct {
		list []impl.Blob
		text string
		code int64
	}{
		{small, "a", impl.PtAgain}, {small, small[2].Text, impl.PtAgain}, {small, "korsetab", impl.PtClash}, {small, mixed(impl.MaxText+1, 1), impl.PtBad},
		{full, full[7].Text, impl.PtAgain}, {full, sevenRound + full[7].Text, impl.PtClash}, {full, "new", impl.PtFull}, {full, mixed(impl.MaxText+1, 1), impl.PtFull},
	} {
		picture := slices.Clone(c.list)
		got, _, code := impl.Put(c.list, c.text)
		if code != c.code || !slices.Equal(got, c.list) {
			t.Fatalf("Put of %.40q is %d with %d Blobs, not %d", c.text, code, len(got), c.code)
		}
		owns(t, "as it is", got, append(textsIn(c.list), c.text))
		scribble(got, impl.Blob{})
		if !slices.Equal(c.list, picture) {
			t.Fatalf("Put of %.40q, with code %d: the store that is as it is lies in its argument", c.text, code)
		}
	}
}

func TestGetIsNewMemory(t *testing.T) {
	for _, list := range rightStores() {
		for i, b := range list {
			if i > 5 && i%50 > 0 {
				continue
			}
			one, _ := impl.Get(list, b.Digest)
			other, _ := impl.Get(list, b.Digest)
			apart(t, "Get and its store", one, b.Text)
			apart(t, "two times Get", one, other)
		}
	}
}

func TestDropIsNewMemory(t *testing.T) {
	for i, list := range rightStores() {
		picture := slices.Clone(list)
		all := digestsOf(list)
		for _, digests := range [][]int64{nil, {5, -5}, shuffled(all, uint32(i))[:len(all)/2], all[:len(all)/2], all[len(all)/2:], all} {
			one, other := impl.Drop(list, digests), impl.Drop(list, digests)
			wanted := slices.Clone(other)
			owns(t, "Drop", one, textsIn(list))
			owns(t, "two times Drop", other, textsIn(one))
			for _, b := range one[len(one):cap(one)] {
				if b != (impl.Blob{}) {
					t.Fatalf("Drop of %d out of %d: in the room behind lies %.40q", len(digests), len(list), b.Text)
				}
			}
			scribble(one, impl.Blob{Digest: 42, Text: "scribble"})
			if !slices.Equal(list, picture) || !slices.Equal(other, wanted) || !slices.Equal(impl.Drop(list, digests), wanted) {
				t.Fatalf("Drop of %d out of %d: the store shares memory with its argument or another answer", len(digests), len(list))
			}
		}
	}
}

func TestMissingIsNewMemory(t *testing.T) {
	for _, list := range rightStores() {
		for _, given := range [][]int64{{5}, {9, 5, 7}, {-1, 0, -1}, strangers(list)} {
			digests := slices.Clone(given)
			one, other := impl.Missing(list, digests), impl.Missing(list, digests)
			wanted := slices.Clone(other)
			scribble(one, 42)
			if !slices.Equal(digests, given) || !slices.Equal(other, wanted) || !slices.Equal(impl.Missing(list, digests), wanted) {
				t.Fatalf("Missing of %v shares memory with its argument or another answer", given)
			}
		}
	}
}

// A text of one byte is made by its conversion, which lies where all such texts do.
func TestBlobsOfOneByteAreNewMemory(t *testing.T) {
	for b := range 256 {
		s := string([]byte{byte(b)})
		one, d, _ := impl.Put(nil, s)
		other, _, _ := impl.Put(one, s)
		left := impl.Drop(one, nil)
		got, _ := impl.Get(one, d)
		apart(t, "Put", one[0].Text, s)
		apart(t, "Put again", other[0].Text, s)
		apart(t, "Put again", other[0].Text, one[0].Text)
		apart(t, "Drop", left[0].Text, s)
		apart(t, "Drop", left[0].Text, one[0].Text)
		apart(t, "Get", got, s)
		apart(t, "Get", got, one[0].Text)
	}
}

func TestBlobsKeepNothingFromCallToCall(t *testing.T) {
	list := blobsOf("a", "b", "cellar")
	for range 3 {
		puts(t, "a new one", list, "one", blobsOf("a", "b", "cellar", "one"), 1970437566, impl.PtNew)
		gets(t, "it was put into another list", list, 1970437566, "", false)
		puts(t, "a new one", nil, "atuwtwkco", blobsOf("atuwtwkco"), 1040202104, impl.PtNew)
		puts(t, "another's digest, in another list", nil, "qybuogwlf", blobsOf("qybuogwlf"), 1040202104, impl.PtNew)
		puts(t, "no store", []impl.Blob{{}}, "one", nil, 0, impl.PtBad)
		dropsRight(t, list, []int64{1000101, 5, 1000102})
		gets(t, "it was dropped from another list", list, 1000101, "a", true)
		dropsRight(t, list, []int64{5, 9, 5})
	}
}
