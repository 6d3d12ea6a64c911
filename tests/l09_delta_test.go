package tests

import (
	"math"
	"slices"
	"strings"
	"testing"

	"loop.example/g00260/impl"
)

// longestBlock is the greatest size of Blocks.
const longestBlock = 100

// wrongSizes are those that no Blocks have.
var wrongSizes = []int64{0, -1, -2, -4, -longestBlock, 101, 102, 200, 1000, impl.MaxBytes, math.MaxInt32, 1 << 32, 1<<32 + 4, 1<<62 + 4, math.MaxInt64, math.MinInt64, math.MinInt64 + 4}

// blk is a Bit of the old one's block of this number, txt one of a text.
func blk(number int64) impl.Bit        { return impl.Bit{From: number} }
func txt(text string) impl.Bit         { return impl.Bit{From: -1, Text: text} }
func bits(list ...impl.Bit) []impl.Bit { return list }

// blocksOf tells Blocks of a right size, block by block.
func blocksOf(s string, n int) []string {
	var list []string
	for s != "" {
		size := min(n, len(s))
		list = append(list, s[:size])
		s = s[size:]
	}
	return list
}

// deltaOf tells Delta, byte by byte, each block of old tried from the first one on.
func deltaOf(old, fresh string, n int) []impl.Bit {
	blocks := blocksOf(old, n)
	var list []impl.Bit
	for fresh != "" {
		number := slices.IndexFunc(blocks, func(b string) bool { return len(b) == n && strings.HasPrefix(fresh, b) })
		if number >= 0 {
			list, fresh = append(list, blk(int64(number))), fresh[n:]
			continue
		}
		if last := len(list) - 1; last >= 0 && list[last].From == -1 {
			list[last].Text += fresh[:1]
		} else {
			list = append(list, txt(fresh[:1]))
		}
		fresh = fresh[1:]
	}
	return list
}

// patchedOf tells Patched: first all pieces, then whether they are too much.
func patchedOf(old string, list []impl.Bit, n int) (string, bool) {
	blocks := blocksOf(old, n)
	var pieces []string
	for _, bit := range list {
		switch {
		case bit.From == -1:
			pieces = append(pieces, bit.Text)
		case bit.Text == "" && bit.From >= 0 && bit.From < int64(len(blocks)):
			pieces = append(pieces, blocks[bit.From])
		default:
			return "", false
		}
	}
	s := strings.Join(pieces, "")
	if len(s) > impl.MaxBytes {
		return "", false
	}
	return s, true
}

// ahead are the first few of a list, to be shown.
func ahead[T any](list []T) []T {
	return list[:min(len(list), 9)]
}

// blocksAre fails where Blocks is not these.
func blocksAre(t *testing.T, why, s string, n int64, wanted []string) {
	t.Helper()
	if list := impl.Blocks(s, n); !slices.Equal(list, wanted) {
		t.Fatalf("%s: Blocks of %d bytes, %.40q, by %d are %d, %.40q, not %d, %.40q", why, len(s), s, n, len(list), ahead(list), len(wanted), ahead(wanted))
	}
}

// deltaIs fails where Delta is not this list, or Patched of it not the fresh text and true.
func deltaIs(t *testing.T, why, old, fresh string, n int64, wanted []impl.Bit) {
	t.Helper()
	list := impl.Delta(old, fresh, n)
	if !slices.Equal(list, wanted) {
		t.Fatalf("%s: Delta of %.60q and %.60q by %d is %d Bits, %.40v, not %d, %.40v", why, old, fresh, n, len(list), ahead(list), len(wanted), ahead(wanted))
	}
	if s, is := impl.Patched(old, list, n); s != fresh || !is {
		t.Fatalf("%s: Patched of Delta of %.60q and %.60q by %d is %.60q, %v", why, old, fresh, n, s, is)
	}
	told, count := "", int64(0)
	for _, bit := range list {
		told += bit.Text
		if bit.From >= 0 {
			count++
		}
	}
	if sent := impl.Sent(list); sent != int64(len(told)) || sent+count*n != int64(len(fresh)) {
		t.Fatalf("%s: of Delta of %.60q and %.60q by %d, %d bytes are Sent and %d blocks told", why, old, fresh, n, sent, count)
	}
}

// deltaRight is deltaIs where the document's words are followed step by step.
func deltaRight(t *testing.T, why, old, fresh string, n int64) {
	t.Helper()
	deltaIs(t, why, old, fresh, n, deltaOf(old, fresh, int(n)))
}

// deltaNot fails where Delta is not nothing.
func deltaNot(t *testing.T, why, old, fresh string, n int64) {
	t.Helper()
	if list := impl.Delta(old, fresh, n); len(list) != 0 {
		t.Errorf("%s: Delta of %d bytes and %d by %d is %d Bits", why, len(old), len(fresh), n, len(list))
	}
}

// patches fails where Patched is not this text and true.
func patches(t *testing.T, why, old string, list []impl.Bit, n int64, wanted string) {
	t.Helper()
	if s, is := impl.Patched(old, list, n); s != wanted || !is {
		t.Fatalf("%s: Patched of %.40q by %d Bits, %.40v, and %d is %d bytes, %.60q, %v, not %d, %.60q", why, old, len(list), ahead(list), n, len(s), s, is, len(wanted), wanted)
	}
}

// patchesNot fails where Patched is not an empty text and false.
func patchesNot(t *testing.T, why, old string, list []impl.Bit, n int64) {
	t.Helper()
	if s, is := impl.Patched(old, list, n); s != "" || is {
		t.Fatalf("%s: Patched of %.40q by %d Bits, %.40v, and %d is %d bytes, %.60q, %v", why, old, len(list), ahead(list), n, len(s), s, is)
	}
}

// patchedRight fails where Patched is not what the document's words tell.
func patchedRight(t *testing.T, why, old string, list []impl.Bit, n int64) {
	t.Helper()
	if wanted, well := patchedOf(old, list, int(n)); well {
		patches(t, why, old, list, n, wanted)
	} else {
		patchesNot(t, why, old, list, n)
	}
}

// edits are pairs of an old text and a fresh one, ordinary ones and edges.
func edits() [][2]string {
	u := mixed(300, 11)
	list := [][2]string{
		{"", ""}, {"", "a"}, {"a", ""}, {"a", "a"}, {"a", "b"}, {"", u}, {u, ""}, {u, u}, {u + "end", "end"},
		{"abcdefgh", "xxefghabcdy"}, {"the quick brown fox", "the quick red fox"}, {"the quick brown fox", "a fox, the quick brown one"},
		{u, u + "more"}, {u, "more" + u}, {u, u[:150] + "more" + u[150:]}, {u, u[:100] + u[107:]}, {u, u[150:] + u[:150]}, {u, u + u}, {u + u, u},
		{u, u[1:]}, {u, u[:299]}, {u[1:], u}, {u[:299], u}, {allBytes(), allBytes()}, {allBytes(), allBytes()[100:] + allBytes()[:101]},
		{strings.Repeat("a", 90), strings.Repeat("a", 47)}, {strings.Repeat("a", 47), strings.Repeat("a", 90)}, {strings.Repeat("ab", 40), strings.Repeat("ba", 40)},
		{"\x00\x00\x00\x00\x01", "\x00\x00\x00\x00\x00\x01"}, {"\u00e9\u00e8\u00e9\u00e8", "\u00e8\u00e9\u00e8\u00e9"}, {"\xff\xfe\xff\xfe", "\xfe\xff\xfe\xff"},
	}
	for seed := range uint32(40) {
		old := few(int(seed)*9, 2+int(seed)%4, seed)
		at := len(old) / 3
		list = append(list, [2]string{old, few(int(seed)*7, 2+int(seed)%4, seed+100)}, [2]string{old, old[at:] + "b" + old[:2*at]})
	}
	return list
}

func TestBlocksAreWhatTheDocumentTells(t *testing.T) {
	for _, c := range []struct {
		why, text string
		n         int64
		wanted    []string
	}{
		{"an empty text", "", 1, nil},
		{"an empty text", "", 4, nil},
		{"an empty text", "", longestBlock, nil},
		{"just n bytes", "abcd", 4, []string{"abcd"}},
		{"one less", "abc", 4, []string{"abc"}},
		{"one more", "abcde", 4, []string{"abcd", "e"}},
		{"two times n", "abcdefgh", 4, []string{"abcd", "efgh"}},
		{"two times n, less one", "abcdefg", 4, []string{"abcd", "efg"}},
		{"1 byte by 1", "a", 1, []string{"a"}},
		{"some by 1", "abca", 1, []string{"a", "b", "c", "a"}},
		{"alike ones", "aaaaaaaaa", 3, []string{"aaa", "aaa", "aaa"}},
		{"100 bytes by 100", strings.Repeat("x", 100), 100, []string{strings.Repeat("x", 100)}},
		{"99 bytes by 100", strings.Repeat("x", 99), 100, []string{strings.Repeat("x", 99)}},
		{"101 bytes by 100", strings.Repeat("x", 101), 100, []string{strings.Repeat("x", 100), "x"}},
		{"bytes 0 and 255", "\x00\xff\x00", 2, []string{"\x00\xff", "\x00"}},
		{"runes are their bytes", "\u00e9\u00e8", 3, []string{"\xc3\xa9\xc3", "\xa8"}},
	} {
		blocksAre(t, c.why, c.text, c.n, c.wanted)
	}
}

func TestBlocksOfEachSize(t *testing.T) {
	s := mixed(3*longestBlock+2, 4)
	for n := 1; n <= longestBlock; n++ {
		for size := range len(s) {
			blocksAre(t, "some bytes", s[:size], int64(n), blocksOf(s[:size], n))
		}
		if list := impl.Blocks(s, int64(n)); strings.Join(list, "") != s || len(list) != (len(s)+n-1)/n {
			t.Errorf("by %d there are %d blocks, or they are not the text", n, len(list))
		}
	}
}

func TestBlocksAtMaxBytes(t *testing.T) {
	just := mixed(impl.MaxBytes, 5)
	for _, n := range []int64{1, 2, 3, 7, 64, 99, longestBlock} {
		blocksAre(t, "MaxBytes", just, n, blocksOf(just, int(n)))
		blocksAre(t, "one less", just[1:], n, blocksOf(just[1:], int(n)))
		blocksAre(t, "one more", just+"x", n, nil)
		blocksAre(t, "far more", strings.Repeat("x", 1000000), n, nil)
	}
}

func TestBlocksOfAWrongSize(t *testing.T) {
	for _, n := range wrongSizes {
		for _, s := range []string{"", "a", "abcd", mixed(300, 1), mixed(impl.MaxBytes, 1), mixed(impl.MaxBytes+1, 1)} {
			blocksAre(t, "a wrong size", s, n, nil)
		}
	}
}

func TestDeltaIsWhatTheDocumentTells(t *testing.T) {
	for _, c := range []struct {
		why, old, fresh string
		n               int64
		wanted          []impl.Bit
	}{
		{"the document's kind of text", "abcdefgh", "xxefghabcdy", 4, bits(txt("xx"), blk(1), blk(0), txt("y"))},
		{"both are empty", "", "", 4, nil},
		{"the old one is empty", "", "abcd", 4, bits(txt("abcd"))},
		{"the old one is empty, by 1", "", "abc", 1, bits(txt("abc"))},
		{"the fresh one is empty", "abcd", "", 4, nil},
		{"to itself, one block", "abcd", "abcd", 4, bits(blk(0))},
		{"to itself, three blocks", "abcdefgh1234", "abcdefgh1234", 4, bits(blk(0), blk(1), blk(2))},
		{"to itself, the last one not whole", "abcdefghi", "abcdefghi", 4, bits(blk(0), blk(1), txt("i"))},
		{"to itself, no block whole", "abc", "abc", 4, bits(txt("abc"))},
		{"the last block is not whole, and the fresh one ends with it", "abcdef", "xef", 4, bits(txt("xef"))},
		{"the last block is not whole, and the fresh one is it", "abcdef", "ef", 4, bits(txt("ef"))},
		{"the last block is not whole, and behind a block", "abcdef", "abcdef", 4, bits(blk(0), txt("ef"))},
		{"the last block is not whole, and amid the fresh one", "abcdef", "abcdefabcd", 4, bits(blk(0), txt("ef"), blk(0))},
		{"the last block is not whole, and alike", "aaaaaa", "aaaaaa", 4, bits(blk(0), txt("aa"))},
		{"two alike blocks", "abcdabcd", "abcd", 4, bits(blk(0))},
		{"two alike blocks, twice", "abcdabcd", "abcdabcd", 4, bits(blk(0), blk(0))},
		{"two alike blocks behind another", "wxyzabcdabcd", "abcdwxyzabcd", 4, bits(blk(1), blk(0), blk(1))},
		{"two alike blocks with another between", "abcdwxyzabcd", "abcd", 4, bits(blk(0))},
		{"three alike blocks", "xxyyxxyyxx", "yyxx", 2, bits(blk(1), blk(0))},
		{"a block begins inside bytes that are in none", "abcdefgh", "ababcdcd", 4, bits(txt("ab"), blk(0), txt("cd"))},
		{"a block begins one byte on", "abcdefgh", "aabcd", 4, bits(txt("a"), blk(0))},
		{"a block begins where another almost does", "aabbaabc", "aabaabb", 4, bits(txt("aab"), blk(0))},
		{"a block begins behind the end of one", "abcdefgh", "abcdxefgh", 4, bits(blk(0), txt("x"), blk(1))},
		{"a block begins at the end of one", "abcdefgh", "efghabcd", 4, bits(blk(1), blk(0))},
		{"a block begins inside one that is taken", "abcdcdef", "abcdef", 4, bits(blk(0), txt("ef"))},
		{"the next one begins inside one that is taken", "abcdbcde", "abcdexabcde", 4, bits(blk(0), txt("ex"), blk(0), txt("e"))},
		{"it is cut amid a block", "abcdefgh", "abc", 4, bits(txt("abc"))},
		{"it is cut amid the second block", "abcdefgh", "abcdefg", 4, bits(blk(0), txt("efg"))},
		{"not where the old one has it, but in no block", "abcdefgh", "bcde", 4, bits(txt("bcde"))},
		{"over the end of a block", "abcdefgh", "cdef", 4, bits(txt("cdef"))},
		{"bytes in a row are one Bit", "abcd", "1234567890", 4, bits(txt("1234567890"))},
		{"by 1", "abc", "cxxab", 1, bits(blk(2), txt("xx"), blk(0), blk(1))},
		{"by 1, alike ones", "aab", "baa", 1, bits(blk(2), blk(0), blk(0))},
		{"by 2, one byte", "ab", "a", 2, bits(txt("a"))},
		{"by 100, of 100", strings.Repeat("x", 100), strings.Repeat("x", 201), 100, bits(blk(0), blk(0), txt("x"))},
		{"by 100, of 99", strings.Repeat("x", 99), strings.Repeat("x", 99), 100, bits(txt(strings.Repeat("x", 99)))},
		{"by 100, of 101", strings.Repeat("x", 101), "y" + strings.Repeat("x", 100), 100, bits(txt("y"), blk(0))},
		{"bytes 0", "\x00\x00", "\x00\x00\x00", 2, bits(blk(0), txt("\x00"))},
		{"bytes 255 and 0", "\xff\x00", "\x00\xff\x00\xff", 2, bits(txt("\x00"), blk(0), txt("\xff"))},
		{"within a rune", "\u00e9\u00e8", "\xa8\xc3\xa8\xc3\xa9", 2, bits(txt("\xa8"), blk(1), blk(0))},
	} {
		deltaIs(t, c.why, c.old, c.fresh, c.n, c.wanted)
		deltaRight(t, c.why, c.old, c.fresh, c.n)
	}
}

func TestDeltaOfEveryShortText(t *testing.T) {
	texts("ab", 6, func(old string) {
		texts("ab", 6, func(fresh string) {
			for n := range int64(4) {
				deltaRight(t, "a short text", old, fresh, n+1)
			}
		})
	})
	texts("\x00a\xff", 4, func(old string) {
		texts("\x00a\xff", 5, func(fresh string) { deltaRight(t, "a short text", old, fresh, 2) })
	})
}

// Promise 9: Patched of Delta is the fresh one, by each size.
func TestPatchedOfDeltaIsTheFreshOne(t *testing.T) {
	for _, pair := range edits() {
		for n := int64(1); n <= longestBlock; n++ {
			if n <= 12 || n%9 == 1 {
				deltaRight(t, "an edit", pair[0], pair[1], n)
				deltaRight(t, "an edit back", pair[1], pair[0], n)
			}
		}
	}
}

// One byte that comes, goes or changes, at each place: all blocks but those that it is in are told by their numbers.
func TestDeltaOfOneByteChanged(t *testing.T) {
	const n = 5
	s := unlike(61)
	for at := range len(s) {
		for _, fresh := range []string{s[:at] + "\x01" + s[at:], s[:at] + s[at+1:], s[:at] + "\x01" + s[at+1:]} {
			deltaRight(t, "a byte changed", s, fresh, n)
			if sent := impl.Sent(impl.Delta(s, fresh, n)); sent > n+2 {
				t.Errorf("at %d a byte is changed, and %d bytes are Sent", at, sent)
			}
		}
	}
}

func TestDeltaOfATextToItself(t *testing.T) {
	s := unlike(3*longestBlock + 1)
	for n := int64(1); n <= longestBlock; n++ {
		for _, size := range []int64{0, 1, n - 1, n, n + 1, 2*n - 1, 2 * n, 2*n + 1, 3 * n} {
			deltaRight(t, "to itself", s[:size], s[:size], n)
			if sent := impl.Sent(impl.Delta(s[:size], s[:size], n)); sent != size%n {
				t.Errorf("of %d bytes to themselves by %d, %d are Sent", size, n, sent)
			}
		}
	}
}

// The first of some alike blocks is told, wherever they are.
func TestDeltaOfAlikeBlocks(t *testing.T) {
	for first := range 6 {
		for second := first; second < 8; second++ {
			blocks := numbersOf(8, 4)
			blocks[second] = blocks[first]
			old := strings.Join(blocks, "")
			deltaIs(t, "alike blocks", old, "x"+blocks[second]+"y", 4, bits(txt("x"), blk(int64(first)), txt("y")))
			deltaRight(t, "alike blocks", old, old+"..."+old, 4)
		}
	}
}

func TestDeltaAtMaxBytes(t *testing.T) {
	just := mixed(impl.MaxBytes, 5)
	var whole []impl.Bit
	for i := range int64(impl.MaxBytes / longestBlock) {
		whole = append(whole, blk(i))
	}
	moved := just[1:] + "\x01"
	deltaIs(t, "to itself", just, just, longestBlock, whole)
	deltaIs(t, "in place of nothing", "", just, longestBlock, bits(txt(just)))
	deltaIs(t, "nothing in its place", just, "", longestBlock, nil)
	deltaRight(t, "moved by one", just, moved, longestBlock)
	deltaRight(t, "a little of it", just, just[7:1234], 99)
	deltaRight(t, "it, of a little", just[7:1234], just, 33)
	alike := strings.Repeat("a", impl.MaxBytes)
	deltaIs(t, "none of many", alike, strings.Repeat("b", impl.MaxBytes), 1, bits(txt(strings.Repeat("b", impl.MaxBytes))))
	deltaIs(t, "always the first of many", alike, alike, 1, slices.Repeat(bits(blk(0)), impl.MaxBytes))
	for _, n := range []int64{1, 2, 99, longestBlock} {
		long := just + "x"
		deltaNot(t, "the old one has one more", long, just, n)
		deltaNot(t, "the fresh one has one more", just, long, n)
		deltaNot(t, "both have one more", long, long, n)
		deltaNot(t, "the old one has one more, the fresh one nothing", long, "", n)
		deltaNot(t, "the fresh one has one more, the old one nothing", "", long, n)
		deltaNot(t, "the old one has one more, the fresh one little", long, "abcd", n)
		deltaNot(t, "both have far more", strings.Repeat("x", 1000000), strings.Repeat("x", 1000000), n)
	}
}

func TestDeltaOfAWrongSize(t *testing.T) {
	for _, n := range wrongSizes {
		for _, s := range []string{"", "a", "abcd", mixed(300, 1), mixed(impl.MaxBytes, 1), mixed(impl.MaxBytes+1, 1)} {
			deltaNot(t, "a wrong size", s, s, n)
			deltaNot(t, "a wrong size", "", s, n)
			deltaNot(t, "a wrong size", s, "abcd", n)
		}
	}
	// Those next to them are right.
	deltaRight(t, "by 1", "abcd", "dcba", 1)
	deltaRight(t, "by 100", mixed(300, 1), "x"+mixed(300, 1), longestBlock)
}

func TestPatchedIsWhatTheDocumentTells(t *testing.T) {
	for _, c := range []struct {
		why, old string
		list     []impl.Bit
		n        int64
		wanted   string
	}{
		{"the document's kind of text", "abcdefgh", bits(txt("xx"), blk(1), blk(0), txt("y")), 4, "xxefghabcdy"},
		{"no Bits", "abcd", nil, 4, ""},
		{"no Bits", "abcd", bits(), 4, ""},
		{"no Bits, and nothing old", "", nil, 4, ""},
		{"an empty Text", "abcd", bits(txt("")), 4, ""},
		{"empty Texts", "abcd", bits(txt(""), txt(""), txt("")), 4, ""},
		{"an empty Text amid others", "abcd", bits(blk(0), txt(""), blk(0)), 4, "abcdabcd"},
		{"a Text", "abcd", bits(txt("xyz")), 4, "xyz"},
		{"a Text, and nothing old", "", bits(txt("xyz")), 4, "xyz"},
		{"Texts in a row", "abcd", bits(txt("x"), txt("yz")), 4, "xyz"},
		{"a Text that is an old block", "abcd", bits(txt("abcd")), 4, "abcd"},
		{"the first block", "abcdefgh", bits(blk(0)), 4, "abcd"},
		{"the first block, that is the last one", "abcd", bits(blk(0)), 4, "abcd"},
		{"the first block, not whole", "abc", bits(blk(0)), 4, "abc"},
		{"the last block, whole", "abcdefgh", bits(blk(1)), 4, "efgh"},
		{"the last block, not whole", "abcdef", bits(blk(1)), 4, "ef"},
		{"the last block, one byte", "abcde", bits(blk(1)), 4, "e"},
		{"the last block, not whole, amid others", "abcdef", bits(blk(1), blk(0), blk(1), txt("x"), blk(1)), 4, "efabcdefxef"},
		{"a block many times", "abcd", bits(blk(0), blk(0), blk(0)), 4, "abcdabcdabcd"},
		{"alike blocks", "abcdabcd", bits(blk(1), blk(0)), 4, "abcdabcd"},
		{"by 1", "abc", bits(blk(2), blk(0), txt("x"), blk(1)), 1, "caxb"},
		{"by 100, whole", strings.Repeat("x", 200), bits(blk(1)), 100, strings.Repeat("x", 100)},
		{"by 100, not whole", strings.Repeat("x", 199), bits(blk(1)), 100, strings.Repeat("x", 99)},
		{"by 99", strings.Repeat("x", 100), bits(blk(1)), 99, "x"},
		{"bytes 0 and 255", "\x00\xff\x00", bits(blk(1), txt("\xff\x00"), blk(0)), 2, "\x00\xff\x00\x00\xff"},
	} {
		patches(t, c.why, c.old, c.list, c.n, c.wanted)
		patchedRight(t, c.why, c.old, c.list, c.n)
	}
}

func TestPatchedOfWhatIsNoBit(t *testing.T) {
	s := "abcdefgh"
	for _, c := range []struct {
		why, old string
		bit      impl.Bit
	}{
		{"one block more, the last one whole", s, blk(2)},
		{"one block more, the last one not whole", "abcdef", blk(2)},
		{"one block more, of one", "abcd", blk(1)},
		{"one block more, of one not whole", "abc", blk(1)},
		{"the first block of nothing", "", blk(0)},
		{"the second block of nothing", "", blk(1)},
		{"a block far beyond", s, blk(1000)},
		{"a block beyond all texts", s, blk(impl.MaxBytes)},
		{"below -1", s, blk(-2)},
		{"below -1, and a Text", s, impl.Bit{From: -2, Text: "x"}},
		{"far below -1", s, blk(-1000)},
		{"the least", s, blk(math.MinInt64)},
		{"the least, and a Text", s, impl.Bit{From: math.MinInt64, Text: "x"}},
		{"the greatest", s, blk(math.MaxInt64)},
		{"the greatest, and a Text", s, impl.Bit{From: math.MaxInt64, Text: "x"}},
		{"the first block and a Text", s, impl.Bit{Text: "x"}},
		{"the first block and its own text", s, impl.Bit{Text: "abcd"}},
		{"the last block and a Text", s, impl.Bit{From: 1, Text: "x"}},
		{"the last block, not whole, and its own text", "abcdef", impl.Bit{From: 1, Text: "ef"}},
		{"no such block and a Text", s, impl.Bit{From: 2, Text: "x"}},
		{"a block and a byte 0", s, impl.Bit{Text: "\x00"}},
	} {
		for _, list := range [][]impl.Bit{
			bits(c.bit), bits(c.bit, txt("x")), bits(txt("x"), c.bit), bits(txt(""), c.bit, txt("")), bits(txt("x"), txt("y"), c.bit, txt("z")), bits(c.bit, c.bit),
		} {
			patchesNot(t, c.why, c.old, list, 4)
			patchedRight(t, c.why, c.old, list, 4)
		}
		if c.old != "" && c.old != "abc" {
			patchesNot(t, c.why+", amid right blocks", c.old, bits(blk(0), c.bit, blk(0)), 4)
		}
	}
}

// Every From near the ends of what there is, of each size, of whole last blocks and others.
func TestPatchedOfEachFrom(t *testing.T) {
	s := mixed(3*longestBlock, 8)
	for n := int64(1); n <= longestBlock; n++ {
		for _, size := range []int64{0, 1, n - 1, n, n + 1, 2*n - 1, 2 * n, 2*n + 1, 3*n - 1, 3 * n} {
			for from := int64(-4); from <= 6; from++ {
				patchedRight(t, "a From", s[:size], bits(blk(from)), n)
				patchedRight(t, "a From and a Text", s[:size], bits(impl.Bit{From: from, Text: "x"}), n)
				patchedRight(t, "a From amid Texts", s[:size], bits(txt("x"), blk(from), txt("y")), n)
			}
			// Times n these wrap round to a place within the text, or near it.
			for _, from := range []int64{math.MaxInt64/n + 1, math.MinInt64/n - 1, math.MaxInt64 / n, math.MinInt64 / n, 1 << 62, 1 << 61, 1 << 60, 1 << 32, 1<<32 + 1, 1 << 31, math.MaxInt64 - n, math.MaxInt64 - n + 1, math.MaxInt64 - 1, math.MinInt64 + 1, -1 << 62, -1 << 32, -1<<32 - 1} {
				if from != -1 && (from < 0 || from > size) {
					patchesNot(t, "a great From", s[:size], bits(blk(from)), n)
				}
			}
		}
	}
}

func TestPatchedOfEveryShortList(t *testing.T) {
	few := bits(blk(0), blk(1), blk(2), blk(-2), txt(""), txt("xy"), impl.Bit{From: 0, Text: "z"})
	texts("\x00\x01\x02\x03\x04\x05\x06", 4, func(places string) {
		var list []impl.Bit
		for i := range len(places) {
			list = append(list, few[places[i]])
		}
		patchedRight(t, "a short list", "abcdef", list, 4)
		patchedRight(t, "a short list", "abcdefgh1", list, 4)
	})
}

func TestPatchedAtMaxBytes(t *testing.T) {
	just := mixed(impl.MaxBytes, 9)
	blocks := impl.MaxBytes / longestBlock
	old := just[:longestBlock+60]
	hundred := just[:longestBlock]
	for _, c := range []struct {
		why    string
		list   []impl.Bit
		wanted string
	}{
		{"one Text", bits(txt(just)), just},
		{"two Texts", bits(txt(just[:7]), txt(just[7:])), just},
		{"a Text a byte", slices.Repeat(bits(txt("x")), impl.MaxBytes), strings.Repeat("x", impl.MaxBytes)},
		{"blocks", slices.Repeat(bits(blk(0)), blocks), strings.Repeat(hundred, blocks)},
		{"blocks and a Text", append(slices.Repeat(bits(blk(0)), blocks-1), txt(hundred)), strings.Repeat(hundred, blocks)},
		{"a Text and a block", bits(txt(just[longestBlock:]), blk(0)), just[longestBlock:] + hundred},
		{"a block and a Text", bits(blk(0), txt(just[longestBlock:])), just},
		{"a Text and a block that is not whole", bits(txt(just[60:]), blk(1)), just[60:] + old[longestBlock:]},
		{"empty Texts beside", bits(txt(""), txt(just), txt("")), just},
	} {
		patches(t, "MaxBytes by "+c.why, old, c.list, longestBlock, c.wanted)
		patchesNot(t, "one more, a Text behind "+c.why, old, append(slices.Clone(c.list), txt("x")), longestBlock)
		patchesNot(t, "one more, a Text ahead of "+c.why, old, append(bits(txt("x")), c.list...), longestBlock)
		patchesNot(t, "more, a block behind "+c.why, old, append(slices.Clone(c.list), blk(1)), longestBlock)
		patchesNot(t, "more, a block ahead of "+c.why, old, append(bits(blk(0)), c.list...), longestBlock)
		patchesNot(t, "MaxBytes, and no such block, by "+c.why, old, append(slices.Clone(c.list), blk(2)), longestBlock)
	}
	patchesNot(t, "one more by one Text", "", bits(txt(just+"x")), 1)
	patchesNot(t, "one more by Texts", "", bits(txt(just[1:]), txt("xy")), 1)
	patchesNot(t, "one more by Texts a byte", "", slices.Repeat(bits(txt("x")), impl.MaxBytes+1), 1)
	patchesNot(t, "one more by blocks of 1", "x", slices.Repeat(bits(blk(0)), impl.MaxBytes+1), 1)
	patches(t, "MaxBytes by blocks of 1", "x", slices.Repeat(bits(blk(0)), impl.MaxBytes), 1, strings.Repeat("x", impl.MaxBytes))
	patchesNot(t, "one more by a block", old, bits(txt(just[longestBlock-1:]), blk(0)), longestBlock)
	patchesNot(t, "one more by a block that is not whole", old, bits(txt(just[59:]), blk(1)), longestBlock)
	patchesNot(t, "far more by one Text", old, bits(txt(strings.Repeat("x", 1000000))), longestBlock)
	patchesNot(t, "far more by Texts", old, slices.Repeat(bits(txt(just)), 100000), longestBlock)
	patchesNot(t, "far more by blocks", old, slices.Repeat(bits(blk(0)), 1000000), longestBlock)
	patches(t, "very many empty Texts", old, append(slices.Repeat(bits(txt("")), 1000000), blk(1)), longestBlock, old[longestBlock:])
}

func TestPatchedOfAnOldTextThatIsTooLongOrAWrongSize(t *testing.T) {
	just := mixed(impl.MaxBytes, 9)
	lists := [][]impl.Bit{nil, bits(), bits(txt("")), bits(txt("x")), bits(blk(0)), bits(txt("x"), blk(1)), bits(blk(-2))}
	for _, n := range []int64{1, 2, 99, longestBlock} {
		last := int64(len(blocksOf(just, int(n)))) - 1
		patches(t, "MaxBytes", just, bits(blk(0), blk(last)), n, just[:n]+just[last*n:])
		patchesNot(t, "MaxBytes, one block more", just, bits(blk(last+1)), n)
		for _, list := range lists {
			patchesNot(t, "one more", just+"x", list, n)
			patchesNot(t, "far more", strings.Repeat("x", 1000000), list, n)
		}
	}
	for _, n := range wrongSizes {
		for _, list := range lists {
			for _, s := range []string{"", "abcd", just, just + "x"} {
				patchesNot(t, "a wrong size", s, list, n)
			}
		}
	}
}

func TestSentIsHowManyBytesOfText(t *testing.T) {
	for _, c := range []struct {
		why  string
		list []impl.Bit
		sent int64
	}{
		{"no Bits", nil, 0},
		{"no Bits", bits(), 0},
		{"an empty Text", bits(txt("")), 0},
		{"empty Texts", bits(txt(""), txt("")), 0},
		{"blocks", bits(blk(0), blk(7), blk(0)), 0},
		{"a byte", bits(txt("x")), 1},
		{"a byte 0", bits(txt("\x00")), 1},
		{"runes are their bytes", bits(txt("\u00e9")), 2},
		{"Texts and blocks", bits(txt("xx"), blk(1), blk(0), txt("y")), 3},
		{"Texts in a row, and an empty one", bits(txt("xx"), txt(""), txt("yyy")), 5},
		{"a block that has a Text", bits(impl.Bit{From: 0, Text: "abc"}), 3},
		{"a great block that has a Text", bits(impl.Bit{From: math.MaxInt64, Text: "abc"}, txt("x")), 4},
		{"below -1", bits(impl.Bit{From: -2, Text: "ab"}, blk(math.MinInt64), impl.Bit{From: math.MinInt64, Text: "c"}), 3},
		{"more than MaxBytes", bits(txt(strings.Repeat("x", impl.MaxBytes)), txt("x")), impl.MaxBytes + 1},
		{"far more", slices.Repeat(bits(txt(strings.Repeat("x", 1<<20))), 1<<16), 1 << 36},
	} {
		if sent := impl.Sent(c.list); sent != c.sent {
			t.Errorf("%s: Sent is %d, not %d", c.why, sent, c.sent)
		}
	}
}

// overBits are the Bits with Texts that lie on bytes, with room behind; those bytes, and pictures of them.
func overBits(list []impl.Bit) ([]impl.Bit, [][]byte, [][]byte) {
	var laid []impl.Bit
	var rows, pictures [][]byte
	for _, bit := range list {
		row, picture := roomy([]byte(bit.Text), '\x2a')
		laid = append(laid, impl.Bit{From: bit.From, Text: over(row)})
		rows, pictures = append(rows, row), append(pictures, picture)
	}
	return laid, rows, pictures
}

// deltaEnds are lists that Patched takes and lists that it does not, of an old text of three blocks by 4.
func deltaEnds() [][]impl.Bit {
	return [][]impl.Bit{
		nil, bits(), bits(blk(0)), bits(txt("")), bits(txt("xyz")), bits(txt("x"), blk(2), txt("y"), blk(1)), bits(blk(3)), bits(txt("x"), blk(-2)), bits(blk(0), impl.Bit{From: 1, Text: "x"}),
		bits(txt(mixed(impl.MaxBytes, 2))), bits(txt(mixed(impl.MaxBytes, 2)), txt("x")), bits(txt("x"), impl.Bit{From: math.MaxInt64, Text: "y"}, txt("z")),
	}
}

func TestDeltaLeavesItsArguments(t *testing.T) {
	long := mixed(impl.MaxBytes+1, 3)
	for _, pair := range append(edits(), [2]string{long, "a"}, [2]string{"a", long}) {
		old, pictureOfOld := roomy([]byte(pair[0]), '\x2a')
		fresh, pictureOfFresh := roomy([]byte(pair[1]), '\x2a')
		for _, n := range []int64{-1, 0, 1, 2, 4, 7, 100, 101} {
			impl.Blocks(over(old), n)
			impl.Delta(over(old), over(fresh), n)
			impl.Delta(over(fresh), over(old), n)
			stays(t, "the old text", old, pictureOfOld)
			stays(t, "the fresh text", fresh, pictureOfFresh)
		}
	}
}

func TestPatchedAndSentLeaveTheirArguments(t *testing.T) {
	old, pictureOfOld := roomy([]byte("abcdefghijk"), '\x2a')
	for _, given := range deltaEnds() {
		laid, rows, pictures := overBits(given)
		list, picture := roomy(laid, impl.Bit{From: 1, Text: "filler"})
		for _, n := range []int64{-1, 0, 1, 4, 100, 101} {
			impl.Patched(over(old), list, n)
			impl.Sent(list)
			stays(t, "the old text", old, pictureOfOld)
			stays(t, "the Bits", list, picture)
			for i := range rows {
				stays(t, "a Bit's Text", rows[i], pictures[i])
			}
		}
	}
}

// An argument may be a piece of a greater one, the rest of which lies in the room behind it.
func TestDeltaDoesNotLookIntoTheRoomBehind(t *testing.T) {
	row := []byte("abcdefghabcdefgh")
	for size := range len(row) {
		s := over(row)[:size]
		blocksAre(t, "more lies behind", s, 4, blocksOf(s, 4))
		deltaRight(t, "more of the fresh one lies behind", over(row), s, 4)
		deltaRight(t, "more of the old one lies behind", s, over(row), 4)
		patchedRight(t, "more of the old one lies behind", s, bits(blk(int64(size)/4)), 4)
	}
	list := bits(blk(1), txt("x"), blk(0), txt("yz"))
	for size, wanted := range []string{"", "efgh", "efghx", "efghxabcd", "efghxabcdyz"} {
		patches(t, "more Bits lie behind", "abcdefgh", list[:size], 4, wanted)
		if sent := impl.Sent(list[:size]); sent != []int64{0, 0, 1, 1, 3}[size] {
			t.Errorf("Sent of %d Bits, with others behind, is %d", size, sent)
		}
	}
}

// textsOfBits are the Texts of the Bits that have one.
func textsOfBits(list []impl.Bit) []string {
	var all []string
	for _, bit := range list {
		if bit.Text != "" {
			all = append(all, bit.Text)
		}
	}
	return all
}

func TestBlocksAreNewMemory(t *testing.T) {
	for _, given := range []string{"a", "ab", "abcdef", "aaaaaaaa", allBytes(), mixed(300, 2)} {
		for _, n := range []int64{1, 2, 3, 64, 100} {
			s := strings.Clone(given)
			one, other := impl.Blocks(s, n), impl.Blocks(s, n)
			wanted := slices.Clone(other)
			ownTexts(t, "Blocks", one, []string{s})
			ownTexts(t, "two times Blocks", other, one)
			scribble(one, "scribble")
			if s != given || !slices.Equal(other, wanted) {
				t.Fatalf("Blocks of %.40q by %d share memory with another answer", given, n)
			}
			blocksAre(t, "once more", s, n, wanted)
		}
	}
}

func TestDeltaIsNewMemory(t *testing.T) {
	for _, pair := range edits() {
		for _, n := range []int64{1, 2, 4, 9, 100} {
			old, fresh := strings.Clone(pair[0]), strings.Clone(pair[1])
			one, other := impl.Delta(old, fresh, n), impl.Delta(old, fresh, n)
			wanted := slices.Clone(other)
			ownTexts(t, "Delta", textsOfBits(one), []string{old, fresh})
			ownTexts(t, "two times Delta", textsOfBits(other), textsOfBits(one))
			scribble(one, txt("scribble"))
			if !slices.Equal(other, wanted) {
				t.Fatalf("Delta of %.40q and %.40q by %d shares memory with another answer", old, fresh, n)
			}
			deltaIs(t, "once more", old, fresh, n, wanted)
		}
	}
}

func TestPatchedIsNewMemory(t *testing.T) {
	for _, pair := range edits() {
		for _, n := range []int64{1, 2, 4, 9, 100} {
			old, fresh := strings.Clone(pair[0]), strings.Clone(pair[1])
			list := impl.Delta(old, fresh, n)
			one, _ := impl.Patched(old, list, n)
			other, _ := impl.Patched(old, list, n)
			apart(t, "two times Patched", one, other)
			ownTexts(t, "Patched", []string{one}, append(textsOfBits(list), old, fresh))
		}
	}
	// What is one Bit alone is not handed on.
	old := strings.Clone("abcdef")
	for _, n := range []int64{1, 4, 6, 100} {
		for _, bit := range bits(blk(0), txt(strings.Clone("xyz")), txt(old)) {
			s, is := impl.Patched(old, bits(bit), n)
			if !is {
				t.Fatalf("Patched of one Bit, %v, by %d is false", bit, n)
			}
			ownTexts(t, "Patched of one Bit", []string{s}, []string{old, bit.Text})
		}
	}
}

// A text of one byte, that a conversion makes, lies where all such texts do.
func TestDeltaOfOneByteIsNewMemory(t *testing.T) {
	for b := range 256 {
		s := string([]byte{byte(b)})
		block, again := impl.Blocks(s+s, 1), impl.Blocks(s, 4)
		list, other := impl.Delta("", s, 1), impl.Delta(s, s, 2)
		ownTexts(t, "Blocks", append(block, again...), []string{s})
		ownTexts(t, "Delta", append(textsOfBits(list), textsOfBits(other)...), append(block, again[0], s))
		first, _ := impl.Patched(s, bits(blk(0)), 1)
		second, _ := impl.Patched(s, list, 1)
		ownTexts(t, "Patched", []string{first, second}, append(block, again[0], s, list[0].Text))
	}
}

func TestDeltaKeepsNothingFromCallToCall(t *testing.T) {
	for range 3 {
		deltaIs(t, "some", "abcdefgh", "xxefghabcdy", 4, bits(txt("xx"), blk(1), blk(0), txt("y")))
		deltaIs(t, "another old one", "efgh", "xxefghabcdy", 4, bits(txt("xx"), blk(0), txt("abcdy")))
		deltaIs(t, "another size", "abcdefgh", "xxefghabcdy", 2, bits(txt("xx"), blk(2), blk(3), blk(0), blk(1), txt("y")))
		deltaIs(t, "nothing old", "", "abcd", 4, bits(txt("abcd")))
		patches(t, "some", "abcdefgh", bits(blk(1)), 4, "efgh")
		patchesNot(t, "another old one", "abcd", bits(blk(1)), 4)
		patchesNot(t, "nothing old", "", bits(blk(0)), 4)
		blocksAre(t, "some", "abcde", 4, []string{"abcd", "e"})
		blocksAre(t, "a wrong size", "abcde", 0, nil)
	}
}
