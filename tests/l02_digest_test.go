package tests

import (
	"math/big"
	"slices"
	"strconv"
	"strings"
	"testing"

	"loop.example/g00260/impl"
)

// greatestDigest is the greatest number that is a Digest.
const greatestDigest = 2147483646

// known are texts with the Digest that the document asks for.
var known = []struct {
	why, text string
	digest    int64
}{
	{"no byte", "", 1},
	{"byte 0", "\x00", 1000004},
	{"byte 1", "\x01", 1000005},
	{"byte 127", "\x7f", 1000131},
	{"byte 128", "\x80", 1000132},
	{"byte 255", "\xff", 1000259},
	{"a letter", "a", 1000101},
	{"two bytes 0", "\x00\x00", 1427104158},
	{"two bytes 255", "\xff\xff", 1682105178},
	{"a word", "cellar", 1803661083},
	{"four bytes 0", "\x00\x00\x00\x00", 1933749128},
	{"h is 0 in the end", "\xd6\xcf_L", 1},
	{"h is 0 in the end", "dsnkkko", 1},
	{"h is 1 in the end", "\xd6\xcf_M", 1},
	{"h is 1 in the end", "korseta", 1},
	{"h is the greatest", "dsnkkkn", greatestDigest},
	{"h is 0 ahead of the last byte", "dsnkkko\x00", 1},
	{"h is 0 ahead of the last byte", "dsnkkkoa", 98},
	{"h is 0 ahead of the last byte", "dsnkkko\xff", 256},
	{"h is 1 ahead of the last byte", "korsetaa", 1000101},
	{"h is the greatest ahead of the last byte", "dsnkkkna", 2146483742},
}

// clashing are groups of texts that are unlike and have one Digest.
var clashing = [][]string{
	{"atuwtwkco", "qybuogwlf"},
	{"laamay", "arvaua"},
	{"krxspa", "aaaaar"},
	{"bbaaabbababaaaabaabb", "aaaaaaabababaabaaaaa"},
	{"\x14\x00\xef\x00", "\x00\xad\x00\xe6"},
	{"\x00\x00\x00\x00", "\xd6vgB", "\xfb\x1a\x81\xb2"},
	{"", "korseta", "dsnkkkp", "dsnkkko", "\xd6\xcf_L", "\xfbsy\xbd", "korsetakorseta", "dsnkkko\x00"},
	{"korsetaa", "a", "dsnkkkpa"},
	{"dsnkkkn", "ejcntqc"},
}

// plain are texts of which no two Clash.
var plain = []string{"\x00", "\x00\x01", "\x01\x00", "\xff", "\xff\xff", "b", "ab", "ba", "aab", "aba", "cellar", "Cellar", "cellars", "\xc3\xa9", "\xc3", "\xa9", "\xef\xbf\xbd", "\x80", "\xe9"}

// bigDigest tells the Digest as the document's words have it, in numbers that have no end.
func bigDigest(s string) int64 {
	h, factor, modulus := big.NewInt(1), big.NewInt(1000003), big.NewInt(2147483647)
	for _, b := range []byte(s) {
		h.Mul(h, factor)
		h.Add(h, big.NewInt(int64(b)+1))
		h.Mod(h, modulus)
	}
	return max(h.Int64(), 1)
}

// mixed is a text of this many bytes of all kinds, another one for another seed.
func mixed(size int, seed uint32) string {
	row := make([]byte, size)
	for i := range row {
		seed = seed*1664525 + 1013904223
		row[i] = byte(seed >> 24)
	}
	return string(row)
}

// pool is each of clashing and of plain.
func pool() []string {
	return slices.Concat(slices.Concat(clashing...), plain)
}

// sees fails where the Digest of a text isn't what the document asks for.
func sees(t *testing.T, s string) {
	t.Helper()
	if d, wanted := impl.Digest(s), bigDigest(s); d != wanted {
		t.Fatalf("Digest(%.40q), of %d bytes, is %d, not %d", s, len(s), d, wanted)
	}
}

func TestDigestIsTheNumberTheDocumentTells(t *testing.T) {
	for _, c := range known {
		if d := impl.Digest(c.text); d != c.digest {
			t.Errorf("%s: Digest(%q) is %d, not %d", c.why, c.text, d, c.digest)
		}
		sees(t, c.text)
	}
}

func TestDigestOfEveryShortText(t *testing.T) {
	texts("\x00\x01\x7f\x80\xc3\xa9\xff", 5, func(s string) { sees(t, s) })
	for b := range 256 {
		sees(t, string([]byte{byte(b)}))
		sees(t, string([]byte{'a', byte(b), 'z'}))
	}
}

func TestDigestOfLongTexts(t *testing.T) {
	for _, size := range []int{255, 256, 257, impl.MaxText, impl.MaxText + 1, impl.MaxBytes, impl.MaxBytes + 1, 200000} {
		sees(t, strings.Repeat("\x00", size))
		sees(t, strings.Repeat("\xff", size))
		sees(t, strings.Repeat("korseta", size))
		sees(t, "dsnkkko"+strings.Repeat("\x00", size))
		sees(t, mixed(size, uint32(size)))
	}
}

func TestDigestIsFromOneToTheGreatest(t *testing.T) {
	for seed := range uint32(20000) {
		s := mixed(int(seed%40), seed)
		if d := impl.Digest(s); d < 1 || d > greatestDigest {
			t.Fatalf("Digest(%q) is %d", s, d)
		}
	}
}

func TestTextsOfAtMostTwoBytesHaveADigestEach(t *testing.T) {
	var list []string
	byDigest := map[int64]string{}
	see := func(s string) {
		if other, is := byDigest[impl.Digest(s)]; is {
			t.Fatalf("Digest of %q and of %q is %d", other, s, impl.Digest(s))
		}
		byDigest[impl.Digest(s)] = s
		list = append(list, s)
	}
	see("")
	for a := range 256 {
		see(string([]byte{byte(a)}))
		for b := range 256 {
			see(string([]byte{byte(a), byte(b)}))
		}
	}
	if impl.Clashes(list) {
		t.Error("Clashes of all texts of at most two bytes is true")
	}
	if !impl.Clashes(append(list, "korseta")) {
		t.Error("Clashes of all texts of at most two bytes, and one with the Digest of the first, is false")
	}
}

func TestTextsThatClashDo(t *testing.T) {
	for _, group := range clashing {
		for i, a := range group {
			for j, b := range group {
				if impl.Digest(a) != impl.Digest(b) {
					t.Errorf("Digest(%q) is %d, Digest(%q) is %d", a, impl.Digest(a), b, impl.Digest(b))
				}
				if impl.Clash(a, b) != (i != j) {
					t.Errorf("Clash(%q, %q) is %v", a, b, i == j)
				}
			}
		}
	}
}

func TestTextsThatAreAlikeOrHaveUnlikeDigestsDoNotClash(t *testing.T) {
	for _, s := range append(pool(), mixed(50000, 1)) {
		if impl.Clash(s, s) || impl.Clash(s, strings.Clone(s)) {
			t.Errorf("%.40q does Clash with itself", s)
		}
	}
	for i, a := range plain {
		for j, b := range plain {
			if impl.Clash(a, b) {
				t.Errorf("Clash(%q, %q), numbers %d and %d of plain, is true", a, b, i, j)
			}
		}
	}
}

// Promise 2, and that Clash asks no order.
func TestTextsHaveOneDigestJustWhereTheyAreAlikeOrClash(t *testing.T) {
	list := append(pool(), strings.Repeat("korseta", 400), strings.Repeat("korseta", 401), mixed(3000, 7), mixed(3000, 8), mixed(2999, 7))
	for _, a := range list {
		for _, b := range list {
			one := impl.Digest(a) == impl.Digest(b)
			if one != (a == b || impl.Clash(a, b)) {
				t.Errorf("%.40q, %.40q: one Digest is %v, Clash is %v", a, b, one, impl.Clash(a, b))
			}
			if wanted := a != b && bigDigest(a) == bigDigest(b); impl.Clash(a, b) != wanted || impl.Clash(b, a) != wanted {
				t.Errorf("%.40q, %.40q: Clash is %v and %v, not %v", a, b, impl.Clash(a, b), impl.Clash(b, a), wanted)
			}
		}
	}
}

func TestWhatClashesDoesWithTheSameBehind(t *testing.T) {
	for _, behind := range []string{"\x00", "x", "\xff", mixed(500, 3)} {
		if !impl.Clash("atuwtwkco"+behind, "qybuogwlf"+behind) || !impl.Clash("korseta"+behind, behind) {
			t.Errorf("with %.20q behind they do not Clash", behind)
		}
		if impl.Clash("dsnkkko"+behind, behind) {
			t.Errorf("an h of 0 and an h of 1 do Clash with %.20q behind", behind)
		}
	}
}

// twoClash tells whether two of the list do, by going through all pairs.
func twoClash(list []string) bool {
	for i, a := range list {
		for _, b := range list[:i] {
			if a != b && bigDigest(a) == bigDigest(b) {
				return true
			}
		}
	}
	return false
}

func TestClashesIsWhatTheDocumentTells(t *testing.T) {
	for _, c := range []struct {
		list   []string
		wanted bool
	}{
		{nil, false},
		{[]string{}, false},
		{[]string{""}, false},
		{[]string{"laamay"}, false},
		{[]string{"", ""}, false},
		{[]string{"a", "a"}, false},
		{[]string{"laamay", "laamay"}, false},
		{[]string{"a", "b"}, false},
		{[]string{"laamay", "arvaua"}, true},
		{[]string{"", "korseta"}, true},
		{[]string{"", "dsnkkko"}, true},
		{[]string{"korseta", "dsnkkko"}, true},
		{[]string{"a", "laamay", "b", "arvaua", "c"}, true},
		{[]string{"a", "arvaua", "b", "laamay", "c"}, true},
		{[]string{"laamay", "laamay", "arvaua"}, true},
		{[]string{"laamay", "arvaua", "arvaua"}, true},
		{[]string{"arvaua", "laamay", "arvaua"}, true},
		{[]string{"laamay", "krxspa", "dsnkkkn", "\xd6vgB", "a", ""}, false},
		{[]string{"laamay", "krxspa", "krxspa", "laamay", "", ""}, false},
		{[]string{"laamay", "krxspa", "krxspa", "laamay", "", "", "aaaaar"}, true},
		{[]string{"\xd6vgB", "\xfb\x1a\x81\xb2", "\x00\x00\x00\x00"}, true},
		{[]string{"x", "korsetax"}, true},
		{[]string{"x", "dsnkkkox"}, false},
	} {
		if is := impl.Clashes(c.list); is != c.wanted {
			t.Errorf("Clashes(%q) is %v", c.list, is)
		}
	}
}

func TestClashesOfEveryShortList(t *testing.T) {
	few := []string{"laamay", "arvaua", "", "korseta", "dsnkkko", "a", "b"}
	texts("\x00\x01\x02\x03\x04\x05\x06", 5, func(places string) {
		var list []string
		for _, i := range []byte(places) {
			list = append(list, few[i])
		}
		if is := impl.Clashes(list); is != twoClash(list) {
			t.Fatalf("Clashes(%q) is %v", list, is)
		}
	})
}

func TestClashesFindsTwoThatStandFarApart(t *testing.T) {
	var between []string
	for i := range 5000 {
		between = append(between, "text "+strconv.Itoa(i%4000))
	}
	if impl.Clashes(between) {
		t.Fatal("Clashes of texts with a Digest each, some told twice, is true")
	}
	for _, group := range clashing {
		far := slices.Concat(group[:1], between, group[:1])
		if impl.Clashes(far) {
			t.Errorf("%q twice, far apart: Clashes is true", group[0])
		}
		if !impl.Clashes(append(far, group[1])) || !impl.Clashes(slices.Concat(group[1:2], far)) {
			t.Errorf("%q and %q, far apart: Clashes is false", group[0], group[1])
		}
	}
}

func TestClashesLeavesItsList(t *testing.T) {
	for _, given := range [][]string{nil, {"b", "a", "b", ""}, {"qybuogwlf", "b", "atuwtwkco", "a"}, {"laamay", "laamay", "arvaua"}, pool(), plain} {
		list, picture := roomy(given, "filler")
		impl.Clashes(list)
		stays(t, "Clashes", list, picture)
	}
}

func TestClashesDoesNotLookIntoTheRoomBehind(t *testing.T) {
	for _, given := range [][]string{{"laamay"}, {"a", "laamay", "a"}} {
		list, _ := roomy(given, "arvaua")
		if impl.Clashes(list) {
			t.Errorf("Clashes(%q), with arvaua in the room behind, is true", given)
		}
	}
}

func TestDigestAndClashLeaveTheirTexts(t *testing.T) {
	for _, a := range pool() {
		bytesOfA, pictureOfA := roomy([]byte(a), '\x2a')
		impl.Digest(over(bytesOfA))
		stays(t, "Digest", bytesOfA, pictureOfA)
		for _, b := range []string{"", "a", "laamay", "arvaua", a} {
			bytesOfB, pictureOfB := roomy([]byte(b), '\x2a')
			impl.Clash(over(bytesOfA), over(bytesOfB))
			stays(t, "Clash", bytesOfA, pictureOfA)
			stays(t, "Clash", bytesOfB, pictureOfB)
			impl.Clashes([]string{over(bytesOfA), over(bytesOfB), "qybuogwlf"})
			stays(t, "Clashes", bytesOfA, pictureOfA)
			stays(t, "Clashes", bytesOfB, pictureOfB)
		}
	}
}

func TestDigestsKeepNothingFromCallToCall(t *testing.T) {
	for _, group := range clashing {
		for range 3 {
			for _, s := range group {
				sees(t, s)
				if impl.Clashes([]string{s, "a text of its own", s}) {
					t.Fatalf("Clashes of %q alone is true", s)
				}
			}
			if !impl.Clashes(group) || !impl.Clash(group[0], group[1]) {
				t.Fatalf("Clashes(%q) or Clash is false", group)
			}
		}
	}
}
