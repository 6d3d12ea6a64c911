package tests

import (
	"math"
	"slices"
	"strconv"
	"strings"
	"testing"

	"loop.example/g00260/impl"
)

// greatestMost is the greatest Most, and the greatest Part, that a Rule has.
const greatestMost = 1000

// benchRule is a Rule that cuts often.
var benchRule = impl.Rule{Window: 2, Part: 7, Least: 4, Most: 12}

// rightRules are Rules of all shapes: the ordinary ones, and each field at its bounds.
var rightRules = []impl.Rule{
	benchRule,
	{Window: 3, Part: 5, Least: 3, Most: 40},
	{Window: 8, Part: 64, Least: 32, Most: 256},
	{Window: 1, Part: 1, Least: 1, Most: 1},
	{Window: 1, Part: 1, Least: 1, Most: 2},
	{Window: 1, Part: 2, Least: 1, Most: 2},
	{Window: 1, Part: 2, Least: 1, Most: 3},
	{Window: 1, Part: 1, Least: 1, Most: greatestMost},
	{Window: 1, Part: 1000, Least: 1, Most: greatestMost},
	{Window: 1, Part: 1000, Least: 5, Most: 5},
	{Window: 2, Part: 1000, Least: 2, Most: 9},
	{Window: 3, Part: 2, Least: 3, Most: 3},
	{Window: 5, Part: 3, Least: 5, Most: 6},
	{Window: impl.MaxWindow, Part: 1, Least: impl.MaxWindow, Most: impl.MaxWindow},
	{Window: impl.MaxWindow, Part: 9, Least: impl.MaxWindow, Most: greatestMost},
	{Window: impl.MaxWindow, Part: 9, Least: impl.MaxWindow + 1, Most: 60},
	{Window: impl.MaxWindow, Part: 1000, Least: greatestMost, Most: greatestMost},
	{Window: 1, Part: 1, Least: greatestMost, Most: greatestMost},
	{Window: 4, Part: 1, Least: greatestMost - 1, Most: greatestMost},
}

// wrongRules are Rules of which one field or more is past a bound.
func wrongRules() []impl.Rule {
	list := []impl.Rule{
		{},
		{Window: 2, Part: 7, Least: 1, Most: 12},
		{Window: 2, Part: 7, Least: 4, Most: 3},
		{Window: 2, Part: 7, Least: 12, Most: 11},
		{Window: 1, Part: 1, Least: 1, Most: 0},
		{Window: 1, Part: 1, Least: 0, Most: 0},
		{Window: 1, Part: 1, Least: 1001, Most: 1000},
		{Window: 1, Part: 1, Least: 1001, Most: 1001},
		{Window: 1, Part: 1, Least: 1, Most: 1001},
		{Window: 1, Part: 1000, Least: 1000, Most: 1001},
		{Window: impl.MaxWindow, Part: 1, Least: impl.MaxWindow - 1, Most: 100},
		{Window: impl.MaxWindow, Part: 1, Least: impl.MaxWindow - 1, Most: impl.MaxWindow - 1},
		{Window: impl.MaxWindow + 1, Part: 1, Least: impl.MaxWindow + 1, Most: 100},
		{Window: -3, Part: -7, Least: -2, Most: -1},
		{Window: math.MinInt64, Part: math.MinInt64, Least: math.MinInt64, Most: math.MinInt64},
		{Window: math.MaxInt64, Part: math.MaxInt64, Least: math.MaxInt64, Most: math.MaxInt64},
	}
	for _, n := range []int64{math.MinInt64, math.MinInt64 + 1, math.MinInt32, -1000, -2, -1, 0, 1001, 1002, 65521, math.MaxInt32, 1 << 32, 1<<32 + 4, math.MaxInt64 - 1, math.MaxInt64} {
		for place := range 4 {
			list = append(list, ruleWith(benchRule, place, n))
		}
	}
	return append(list, ruleWith(benchRule, 0, impl.MaxWindow+1), ruleWith(benchRule, 0, 5))
}

// ruleWith is the Rule with another number in one of its places.
func ruleWith(r impl.Rule, place int, n int64) impl.Rule {
	*[]*int64{&r.Window, &r.Part, &r.Least, &r.Most}[place] = n
	return r
}

// ruleIsRight tells RuleOk bound by bound, as the document's words have it.
func ruleIsRight(r impl.Rule) bool {
	if r.Window < 1 || r.Window > 16 {
		return false
	}
	if r.Part < 1 || r.Part > 1000 {
		return false
	}
	return r.Least >= r.Window && r.Most >= r.Least && r.Most <= 1000
}

// cutPlaces tells where a Rule's Roll cuts, or would if nothing else told: from the whole text, each place by a window of its own.
func cutPlaces(s string, r impl.Rule) []bool {
	list := make([]bool, len(s)+1)
	for n := int(r.Window); n <= len(s); n++ {
		list[n] = bigRoll(s[n-int(r.Window):n])%r.Part == 0
	}
	return list
}

// cutsOf tells Cuts of a right Rule: it holds each place against Least and Most, counted from the last cut.
func cutsOf(s string, r impl.Rule) []int64 {
	var list []int64
	last := int64(0)
	for at, told := range cutPlaces(s, r) {
		size := int64(at) - last
		if size == r.Most || told && size >= r.Least || at == len(s) && size > 0 {
			last = int64(at)
			list = append(list, last)
		}
	}
	return list
}

// cutsAre fails where Next, Cuts and Chunks of a text are not what the document asks for, or don't fit each other.
func cutsAre(t *testing.T, s string, r impl.Rule) {
	t.Helper()
	cuts, chunks := impl.Cuts(s, r), impl.Chunks(s, r)
	if wanted := cutsOf(s, r); !slices.Equal(cuts, wanted) {
		t.Fatalf("Cuts of %d bytes, %.40q, by %v are %.40v, not %.40v", len(s), s, r, cuts, wanted)
	}
	if len(chunks) != len(cuts) {
		t.Fatalf("Chunks of %d bytes, %.40q, by %v are %d, Cuts are %d", len(s), s, r, len(chunks), len(cuts))
	}
	if g := impl.Glued(chunks); g != s {
		t.Fatalf("Chunks of %d bytes, %.40q, by %v are %.40q Glued", len(s), s, r, g)
	}
	from := int64(0)
	for i, to := range cuts {
		if n := impl.Next(s[from:], r); n != to-from {
			t.Fatalf("Next of %.40q by %v is %d, the cut is at %d", s[from:], r, n, to-from)
		}
		if chunks[i] != s[from:to] {
			t.Fatalf("chunk %d of %.40q by %v is %.40q, between the cuts stands %.40q", i, s, r, chunks[i], s[from:to])
		}
		if to-from > r.Most || to-from < r.Least && i < len(cuts)-1 {
			t.Fatalf("chunk %d of %.40q by %v has %d bytes", i, s, r, to-from)
		}
		from = to
	}
}

// refusesAll fails where one of the three takes the text or the Rule.
func refusesAll(t *testing.T, s string, r impl.Rule) {
	t.Helper()
	if list := impl.Cuts(s, r); len(list) != 0 {
		t.Errorf("Cuts of %d bytes by %v are %d", len(s), r, len(list))
	}
	if list := impl.Chunks(s, r); len(list) != 0 {
		t.Errorf("Chunks of %d bytes by %v are %d", len(s), r, len(list))
	}
}

func TestRuleOkAtEachBound(t *testing.T) {
	for _, r := range rightRules {
		if !impl.RuleOk(r) {
			t.Errorf("RuleOk(%v) is false", r)
		}
	}
	for _, r := range wrongRules() {
		if impl.RuleOk(r) {
			t.Errorf("RuleOk(%v) is true", r)
		}
	}
}

func TestRuleOkOfEveryMixOfBounds(t *testing.T) {
	edges := []int64{math.MinInt64, -1, 0, 1, 2, 15, 16, 17, 999, 1000, 1001, math.MaxInt64}
	for _, window := range edges {
		for _, part := range edges {
			for _, least := range edges {
				for _, most := range edges {
					r := impl.Rule{Window: window, Part: part, Least: least, Most: most}
					if is := impl.RuleOk(r); is != ruleIsRight(r) {
						t.Fatalf("RuleOk(%v) is %v", r, is)
					}
				}
			}
		}
	}
}

func TestNextIsThePlaceTheDocumentTells(t *testing.T) {
	always, seldom := int64(1), int64(1000)
	for _, c := range []struct {
		why, text string
		rule      impl.Rule
		next      int64
	}{
		{"a text", "the quick brown fox", benchRule, 8},
		{"no multiple", "aaaaaaaaaaaaaaaaaaaa", impl.Rule{Window: 1, Part: seldom, Least: 3, Most: 5}, 5},
		{"no multiple, as long as Most", "aaaaa", impl.Rule{Window: 1, Part: seldom, Least: 3, Most: 5}, 5},
		{"no multiple, shorter than Most", "aaaa", impl.Rule{Window: 1, Part: seldom, Least: 3, Most: 5}, 4},
		{"no multiple, shorter than Least", "aa", impl.Rule{Window: 1, Part: seldom, Least: 3, Most: 5}, 2},
		{"all are multiples", "aaaaaaaaaaaaaaaaaaaa", impl.Rule{Window: 1, Part: always, Least: 3, Most: 5}, 3},
		{"all are multiples, shorter than Least", "aa", impl.Rule{Window: 1, Part: always, Least: 3, Most: 5}, 2},
		{"all are multiples, as long as Least", "aaa", impl.Rule{Window: 1, Part: always, Least: 3, Most: 5}, 3},
		{"Least is Most", "aaaaaaaa", impl.Rule{Window: 1, Part: always, Least: 5, Most: 5}, 5},
		{"Least is Window", "aaaaaaaa", impl.Rule{Window: 4, Part: always, Least: 4, Most: 5}, 4},
		{"all is 1", "aaaaaaaa", impl.Rule{Window: 1, Part: always, Least: 1, Most: 1}, 1},
		{"one byte", "a", impl.Rule{Window: 1, Part: always, Least: 1, Most: 1}, 1},
		{"0 is a multiple", "abcd\xfd\xf2gh", impl.Rule{Window: 2, Part: seldom, Least: 2, Most: 9}, 6},
		{"0 at the beginning", "\xfd\xf2cdefgh", impl.Rule{Window: 2, Part: seldom, Least: 2, Most: 9}, 2},
		{"0 ahead of Least", "\xfd\xf2cdefgh", impl.Rule{Window: 2, Part: seldom, Least: 3, Most: 7}, 7},
		{"0 just at Least", "ab\xfd\xf2efgh", impl.Rule{Window: 2, Part: seldom, Least: 4, Most: 7}, 4},
		{"0 just below Most", "abcd\xfd\xf2gh", impl.Rule{Window: 2, Part: seldom, Least: 4, Most: 7}, 6},
		{"0 just at Most", "abcde\xfd\xf2h", impl.Rule{Window: 2, Part: seldom, Least: 4, Most: 7}, 7},
		{"0 behind Most", "abcdef\xfd\xf2", impl.Rule{Window: 2, Part: seldom, Least: 4, Most: 7}, 7},
		{"0 twice", "abc\xfd\xf2\xfd\xf2", impl.Rule{Window: 2, Part: seldom, Least: 4, Most: 9}, 5},
		{"0 at the end", "abcd\xfd\xf2", impl.Rule{Window: 2, Part: seldom, Least: 4, Most: 9}, 6},
		{"byte 255 alone is a multiple", "\x00\x7f\xff\x00", impl.Rule{Window: 1, Part: 256, Least: 1, Most: 9}, 3},
		{"no byte", "", benchRule, 0},
	} {
		if n := impl.Next(c.text, c.rule); n != c.next {
			t.Errorf("%s: Next(%q, %v) is %d, not %d", c.why, c.text, c.rule, n, c.next)
		}
	}
}

func TestNextByARuleThatIsNotRight(t *testing.T) {
	for _, s := range []string{"", "a", "the quick brown fox", mixed(500, 1), mixed(impl.MaxBytes+1, 1)} {
		for _, r := range wrongRules() {
			if n := impl.Next(s, r); n != -1 {
				t.Errorf("Next of %d bytes by %v is %d, not -1", len(s), r, n)
			}
		}
	}
}

// Next has no limit of length: MaxBytes is none for it, and behind Most it does not look.
func TestNextOfLongTexts(t *testing.T) {
	for _, r := range rightRules {
		if n := impl.Next("", r); n != 0 {
			t.Errorf("Next of an empty text by %v is %d", r, n)
		}
		for _, s := range []string{mixed(impl.MaxBytes, 2), mixed(impl.MaxBytes+1, 2), strings.Repeat("\xff", 100000)} {
			wanted := cutsOf(s[:r.Most], r)[0]
			if n := impl.Next(s, r); n != wanted || n != impl.Next(s[:r.Most], r) {
				t.Errorf("Next of %d bytes by %v is %d, not %d", len(s), r, n, wanted)
			}
		}
	}
}

func TestCutsAndChunksAreTheListsTheDocumentTells(t *testing.T) {
	for _, c := range []struct {
		why, text string
		rule      impl.Rule
		cuts      []int64
		chunks    []string
	}{
		{"a text", "the quick brown fox", benchRule, []int64{8, 16, 19}, []string{"the quic", "k brown ", "fox"}},
		{"no byte", "", benchRule, nil, nil},
		{"shorter than Least", "the", benchRule, []int64{3}, []string{"the"}},
		{"by Least", "aaaaaaaa", impl.Rule{Window: 1, Part: 1, Least: 3, Most: 5}, []int64{3, 6, 8}, []string{"aaa", "aaa", "aa"}},
		{"by Least, just", "aaaaaa", impl.Rule{Window: 1, Part: 1, Least: 3, Most: 5}, []int64{3, 6}, []string{"aaa", "aaa"}},
		{"by Most", "aaaaaaaa", impl.Rule{Window: 1, Part: 1000, Least: 3, Most: 5}, []int64{5, 8}, []string{"aaaaa", "aaa"}},
		{"by Most, just", "aaaaaaaaaa", impl.Rule{Window: 1, Part: 1000, Least: 3, Most: 5}, []int64{5, 10}, []string{"aaaaa", "aaaaa"}},
		{"longer than Most by one", "aaaaaa", impl.Rule{Window: 1, Part: 1000, Least: 3, Most: 5}, []int64{5, 6}, []string{"aaaaa", "a"}},
		{"byte by byte", "abc", impl.Rule{Window: 1, Part: 1, Least: 1, Most: 1}, []int64{1, 2, 3}, []string{"a", "b", "c"}},
		{"bytes, not runes", "é€", impl.Rule{Window: 2, Part: 1, Least: 2, Most: 2}, []int64{2, 4, 5}, []string{"é", "\xe2\x82", "\xac"}},
		{"where the bytes say", "abcd\xfd\xf2ab\xfd\xf2\xfd\xf2a", impl.Rule{Window: 2, Part: 1000, Least: 2, Most: 9}, []int64{6, 10, 12, 13}, []string{"abcd\xfd\xf2", "ab\xfd\xf2", "\xfd\xf2", "a"}},
		{"a window over a cut is none", "ab\xfd\xf2cde", impl.Rule{Window: 2, Part: 1000, Least: 2, Most: 3}, []int64{3, 6, 7}, []string{"ab\xfd", "\xf2cd", "e"}},
		{"where Least ends on it, it is cut", "ab\xfd\xf2cde", impl.Rule{Window: 2, Part: 1000, Least: 4, Most: 5}, []int64{4, 7}, []string{"ab\xfd\xf2", "cde"}},
	} {
		if cuts := impl.Cuts(c.text, c.rule); !slices.Equal(cuts, c.cuts) {
			t.Errorf("%s: Cuts(%q, %v) are %v, not %v", c.why, c.text, c.rule, cuts, c.cuts)
		}
		if chunks := impl.Chunks(c.text, c.rule); !slices.Equal(chunks, c.chunks) {
			t.Errorf("%s: Chunks(%q, %v) are %q, not %q", c.why, c.text, c.rule, chunks, c.chunks)
		}
		cutsAre(t, c.text, c.rule)
	}
}

func TestNextCutsAndChunksFitEachOther(t *testing.T) {
	for _, r := range rightRules {
		sizes := []int64{0, 1, r.Window - 1, r.Window, r.Window + 1, r.Least - 1, r.Least, r.Least + 1, r.Most - 1, r.Most, r.Most + 1, r.Most + r.Least, 2 * r.Most, 2*r.Most + 1, 300}
		slices.Sort(sizes)
		for _, size := range slices.Compact(sizes) {
			for _, s := range variety(int(size)) {
				cutsAre(t, s, r)
			}
		}
	}
}

func TestCutsOfEveryShortText(t *testing.T) {
	rules := []impl.Rule{
		{Window: 1, Part: 2, Least: 1, Most: 3},
		{Window: 2, Part: 3, Least: 2, Most: 4},
		{Window: 2, Part: 1000, Least: 2, Most: 5},
		{Window: 3, Part: 2, Least: 3, Most: 3},
		{Window: 1, Part: 3, Least: 2, Most: 6},
	}
	texts("\x00\x01\xf2\xfd", 6, func(s string) {
		for _, r := range rules {
			cutsAre(t, s, r)
		}
	})
}

func TestCutsOfLongTexts(t *testing.T) {
	for _, r := range []impl.Rule{benchRule, rightRules[3], rightRules[7], rightRules[14], rightRules[16]} {
		for _, size := range []int{impl.MaxBytes - 1, impl.MaxBytes} {
			cutsAre(t, mixed(size, 21), r)
		}
		for _, size := range []int{impl.MaxBytes + 1, impl.MaxBytes + 2, 2 * impl.MaxBytes} {
			refusesAll(t, mixed(size, 21), r)
			refusesAll(t, strings.Repeat("a", size), r)
		}
	}
}

func TestCutsByARuleThatIsNotRight(t *testing.T) {
	for _, s := range []string{"", "a", "the quick brown fox", mixed(impl.MaxBytes, 1), mixed(impl.MaxBytes+1, 1)} {
		for _, r := range wrongRules() {
			refusesAll(t, s, r)
		}
	}
}

// fromTheEnd tells each cut by how many bytes stand behind it, the last one of all ahead.
func fromTheEnd(s string, r impl.Rule) []int64 {
	list := impl.Cuts(s, r)
	for i, at := range list {
		list[i] = int64(len(s)) - at
	}
	slices.Reverse(list)
	return list
}

// alikeFromThere fails where two texts that have this end are cut at one place of it, and behind it not alike. It tells whether they are cut so within the end.
func alikeFromThere(t *testing.T, a, b, end string, r impl.Rule) bool {
	t.Helper()
	one, other := fromTheEnd(a+end, r), fromTheEnd(b+end, r)
	meets := -1
	for i, at := range one {
		if at <= int64(len(end)) && slices.Contains(other, at) {
			meets = i
		}
	}
	if meets < 0 {
		return false
	}
	if len(other) <= meets || !slices.Equal(one[:meets+1], other[:meets+1]) {
		t.Fatalf("%.30q and %.30q, ahead of one end of %d bytes, by %v: cut ahead of the end at %v and at %v", a, b, len(end), r, one, other)
	}
	shift := int64(len(b) - len(a))
	if n := impl.Shared(impl.Cuts(a+end, r), impl.Cuts(b+end, r), shift); n < int64(meets+1) {
		t.Fatalf("%.30q and %.30q, ahead of one end of %d bytes, by %v: Shared is %d, cuts that are alike are %d", a, b, len(end), r, n, meets+1)
	}
	return meets > 0
}

// Promise 4, its second part.
func TestTwoTextsWithOneEndThatAreOnceCutAtOnePlaceAreCutAlikeFromThere(t *testing.T) {
	met := 0
	for _, r := range rightRules {
		for seed := range uint32(6) {
			end := mixed(int(40+r.Most), seed)
			for size := range 14 {
				for _, a := range []string{"", mixed(size, seed+50), strings.Repeat("a", size)} {
					if alikeFromThere(t, a, mixed(3*size, seed+90), end, r) {
						met++
					}
				}
			}
		}
	}
	if met < 1000 {
		t.Errorf("only %d pairs of texts are cut at one place", met)
	}
}

func TestAChangeMovesFewCuts(t *testing.T) {
	s := mixed(5000, 77)
	cuts := impl.Cuts(s, benchRule)
	for at := 0; at <= len(s); at += 250 {
		for _, put := range []string{"", "x", "some words"} {
			for _, gone := range []int{0, 1, 30} {
				behind := s[min(at+gone, len(s)):]
				changed := s[:at] + put + behind
				alikeFromThere(t, s[:len(s)-len(behind)], s[:at]+put, behind, benchRule)
				shared := impl.Shared(cuts, impl.Cuts(changed, benchRule), 0) + impl.Shared(cuts, impl.Cuts(changed, benchRule), int64(len(changed)-len(s)))
				if shared < int64(len(cuts))-25 {
					t.Errorf("%d bytes for %d at %d: of %d cuts %d are left", len(put), gone, at, len(cuts), shared)
				}
			}
		}
	}
}

// Promise 4, its third part.
func TestWhatIsAddedBehindChangesNoCutButTheLast(t *testing.T) {
	for _, r := range rightRules {
		whole := mixed(int(2*r.Most)+60, 31)
		all := impl.Cuts(whole, r)
		step := len(whole)/60 + 1
		for size := 0; size <= len(whole); size += step {
			begun := impl.Cuts(whole[:size], r)
			kept := max(len(begun)-1, 0)
			if len(all) < kept || !slices.Equal(begun[:kept], all[:kept]) {
				t.Fatalf("by %v: Cuts of the first %d bytes are %v, of all %v", r, size, begun, all)
			}
			for _, behind := range []string{"\x00", "a", "\xfd\xf2", mixed(40, 5)} {
				longer := impl.Cuts(whole[:size]+behind, r)
				if len(longer) < kept || !slices.Equal(begun[:kept], longer[:kept]) {
					t.Fatalf("by %v: Cuts of %d bytes are %v, with %q behind %v", r, size, begun, behind, longer)
				}
			}
		}
	}
}

func TestGluedIsTheTextTheDocumentTells(t *testing.T) {
	most := strings.Repeat("m", impl.MaxBytes)
	half := mixed(impl.MaxBytes/2, 8)
	for _, c := range []struct {
		why  string
		list []string
		text string
	}{
		{"nil", nil, ""},
		{"no text", []string{}, ""},
		{"empty ones", []string{"", "", ""}, ""},
		{"one", []string{"a"}, "a"},
		{"in order", []string{"b", "a", "b"}, "bab"},
		{"with empty ones", []string{"", "a", "", "bc", ""}, "abc"},
		{"all kinds of bytes", []string{allBytes(), "\xe2\x82", "\xac"}, allBytes() + "€"},
		{"MaxBytes in one", []string{most}, most},
		{"MaxBytes in one, and empty ones", []string{"", most, "", ""}, most},
		{"MaxBytes in two", []string{half, half}, half + half},
		{"MaxBytes in many", strings.Split(most, ""), most},
		{"one byte less", []string{half, half[1:]}, half + half[1:]},
		{"one byte more", []string{half, half, "a"}, ""},
		{"one byte more, ahead", []string{"a", most}, ""},
		{"one byte more, in one", []string{most + "a"}, ""},
		{"one byte more, in many", strings.Split(most+"m", ""), ""},
		{"too many, and empty ones behind", []string{most, "a", "", ""}, ""},
		{"too many, and fewer behind", []string{"a", most, "b"}, ""},
		{"far too many", slices.Repeat([]string{most}, 1000), ""},
	} {
		if g := impl.Glued(c.list); g != c.text {
			t.Errorf("%s: Glued is %d bytes, %.40q, not %d, %.40q", c.why, len(g), g, len(c.text), c.text)
		}
	}
}

func TestSharedIsTheNumberTheDocumentTells(t *testing.T) {
	most := int64(impl.MaxNumber)
	for _, c := range []struct {
		why    string
		a, b   []int64
		shift  int64
		shared int64
	}{
		{"one", []int64{3, 5}, []int64{5, 9}, 2, 1},
		{"the shift goes to a, not to b", []int64{5, 9}, []int64{3, 5}, 2, 0},
		{"a shift below 0", []int64{5, 9}, []int64{3, 5}, -2, 1},
		{"no shift", []int64{1, 2, 3, 9}, []int64{0, 2, 3, 4, 9}, 0, 3},
		{"all", []int64{0, 1, 7}, []int64{10, 11, 17}, 10, 3},
		{"all of fewer", []int64{4}, []int64{0, 4, 8}, 0, 1},
		{"none", []int64{1, 3, 5}, []int64{0, 2, 4, 6}, 0, 0},
		{"a and shift below 0", []int64{0, 1, 2}, []int64{0, 1}, -1, 2},
		{"nil", nil, nil, 0, 0},
		{"empty ones", []int64{}, []int64{}, 5, 0},
		{"a empty", []int64{}, []int64{1, 2}, 0, 0},
		{"b empty", []int64{1, 2}, []int64{}, 0, 0},
		{"numbers at their bounds", []int64{0, most}, []int64{0, most}, 0, 2},
		{"the greatest shift", []int64{0}, []int64{most}, most, 1},
		{"the greatest shift, over the bound", []int64{0, 1, most}, []int64{0, 1, most}, most, 1},
		{"the least shift", []int64{most}, []int64{0}, -most, 1},
		{"the least shift, below 0", []int64{0, 1, most}, []int64{0, 1, most}, -most, 1},
	} {
		if n := impl.Shared(c.a, c.b, c.shift); n != c.shared {
			t.Errorf("%s: Shared(%v, %v, %d) is %d, not %d", c.why, c.a, c.b, c.shift, n, c.shared)
		}
	}
}

func TestSharedOfWhatIsNotRight(t *testing.T) {
	right := [][]int64{nil, {0}, {3, 5}, {0, 7, impl.MaxNumber}}
	wrong := [][]int64{
		{5, 3}, {3, 3}, {0, 0}, {1, 2, 2}, {1, 1, 2}, {1, 2, 1}, {0, 3, 2, 9}, {9, 1, 2, 3},
		{-1}, {-1, 0}, {-1, 5}, {5, -1}, {-2, -1}, {math.MinInt64}, {math.MinInt64, 0}, {math.MinInt64, math.MaxInt64},
		{impl.MaxNumber + 1}, {0, impl.MaxNumber + 1}, {impl.MaxNumber, impl.MaxNumber + 1}, {impl.MaxNumber, impl.MaxNumber},
		{1, math.MaxInt64}, {math.MaxInt64}, {math.MaxInt64 - 1, math.MaxInt64},
	}
	shifts := []int64{0, 1, -1, impl.MaxNumber, -impl.MaxNumber}
	wrongShifts := []int64{impl.MaxNumber + 1, -impl.MaxNumber - 1, 1 << 41, -(1 << 41), 1 << 62, math.MaxInt64 - 1, math.MaxInt64, math.MinInt64 + 1, math.MinInt64}
	for _, a := range right {
		for _, b := range right {
			for _, shift := range shifts {
				if n := impl.Shared(a, b, shift); n < 0 {
					t.Errorf("Shared(%v, %v, %d) is %d", a, b, shift, n)
				}
			}
			for _, shift := range wrongShifts {
				if n := impl.Shared(a, b, shift); n != -1 {
					t.Errorf("Shared(%v, %v, %d) is %d, not -1", a, b, shift, n)
				}
			}
		}
		for _, b := range wrong {
			for _, shift := range append(shifts, wrongShifts...) {
				if n, m, k := impl.Shared(a, b, shift), impl.Shared(b, a, shift), impl.Shared(b, b, shift); n != -1 || m != -1 || k != -1 {
					t.Errorf("Shared of %v and %v by %d is %d, %d and %d, not -1", a, b, shift, n, m, k)
				}
			}
		}
	}
}

// risingLists calls see with each rising list of numbers from 0 to most.
func risingLists(most int64, see func([]int64)) {
	for set := range 1 << (most + 1) {
		var list []int64
		for n := range most + 1 {
			if set>>n&1 == 1 {
				list = append(list, n)
			}
		}
		see(list)
	}
}

func TestSharedOfEveryShortPairOfLists(t *testing.T) {
	risingLists(4, func(a []int64) {
		risingLists(4, func(b []int64) {
			for shift := int64(-6); shift <= 6; shift++ {
				wanted := int64(0)
				for _, n := range a {
					if slices.Contains(b, n+shift) {
						wanted++
					}
				}
				if n := impl.Shared(a, b, shift); n != wanted || impl.Shared(b, a, -shift) != wanted {
					t.Fatalf("Shared(%v, %v, %d) is %d, not %d", a, b, shift, n, wanted)
				}
			}
		})
	})
}

// A list has no limit of how many: MaxList is none for Shared, nor for Glued.
func TestSharedOfLongLists(t *testing.T) {
	var threes, fives []int64
	for n := range int64(30000) {
		threes = append(threes, 3*n)
		fives = append(fives, 5*n)
	}
	if n := impl.Shared(threes, fives, 0); n != 6000 {
		t.Errorf("Shared of multiples of 3 and of 5 is %d", n)
	}
	if n := impl.Shared(fives, threes, 1); n != 6000 {
		t.Errorf("Shared of multiples of 5, and 1, and of 3 is %d", n)
	}
	if g := impl.Glued(make([]string, 100000)); g != "" {
		t.Errorf("Glued of empty texts is %.40q", g)
	}
	if n := impl.Shared(append(threes, 7), fives, 0); n != -1 {
		t.Errorf("Shared of a long list that does not rise in the end is %d", n)
	}
}

func TestCuttingLeavesItsTexts(t *testing.T) {
	rules := append([]impl.Rule{{}, {Window: 2, Part: 7, Least: 4, Most: 1001}}, rightRules...)
	for _, s := range []string{"", "a", "the quick brown fox", mixed(1001, 3), mixed(impl.MaxBytes+1, 3)} {
		row, picture := roomy([]byte(s), '\x2a')
		for _, r := range rules {
			impl.Next(over(row), r)
			impl.Cuts(over(row), r)
			impl.Chunks(over(row), r)
			stays(t, "cutting by "+strconv.FormatInt(r.Window, 10), row, picture)
		}
	}
}

func TestGluedLeavesItsList(t *testing.T) {
	for _, given := range [][]string{nil, {"a", "", "bc"}, {strings.Repeat("m", impl.MaxBytes), "a"}, strings.Split(mixed(500, 4), "")} {
		list, picture := roomy(given, "filler")
		impl.Glued(list)
		stays(t, "Glued", list, picture)
	}
	one, pictureOfOne := roomy([]byte("one "), '\x2a')
	two, pictureOfTwo := roomy([]byte("two"), '\x2a')
	for range 2 {
		if g := impl.Glued([]string{over(one), over(two)}); g != "one two" {
			t.Errorf("Glued is %q", g)
		}
		stays(t, "Glued", one, pictureOfOne)
		stays(t, "Glued", two, pictureOfTwo)
	}
}

func TestSharedLeavesItsLists(t *testing.T) {
	lists := [][]int64{nil, {}, {3, 5}, {5, 9}, {5, 3}, {2, 2, 1}, {-1, 4}, {0, impl.MaxNumber + 1}, {0, impl.MaxNumber}}
	for _, givenA := range lists {
		for _, givenB := range lists {
			for _, shift := range []int64{0, 2, -2, impl.MaxNumber + 1} {
				a, pictureOfA := roomy(givenA, 7)
				b, pictureOfB := roomy(givenB, 7)
				impl.Shared(a, b, shift)
				stays(t, "Shared", a, pictureOfA)
				stays(t, "Shared", b, pictureOfB)
			}
		}
	}
}

func TestSharedAndGluedDoNotLookIntoTheRoomBehind(t *testing.T) {
	a, _ := roomy([]int64{1, 5}, 7)
	b, _ := roomy([]int64{2, 5}, 7)
	if n := impl.Shared(a, b, 0); n != 1 {
		t.Errorf("Shared of lists with a 7 in the room behind is %d", n)
	}
	list, _ := roomy([]string{"a", "b"}, "filler")
	if g := impl.Glued(list); g != "ab" {
		t.Errorf("Glued of a list with room behind is %q", g)
	}
}

func TestCuttingLooksAtNothingBehindTheText(t *testing.T) {
	row := []byte(mixed(60, 13))
	for size := range len(row) {
		s := over(row[:size])
		for _, r := range rightRules {
			cutsAre(t, s, r)
		}
	}
}

func TestCutsAreNewMemory(t *testing.T) {
	for _, r := range rightRules {
		for _, s := range []string{"a", "the quick brown fox", mixed(1500, 9)} {
			one := impl.Cuts(s, r)
			picture := slices.Clone(one)
			scribble(impl.Cuts(s, r), -5)
			scribble(impl.Chunks(s, r), "scribble")
			if !slices.Equal(one, picture) || !slices.Equal(impl.Cuts(s, r), picture) {
				t.Errorf("Cuts of %d bytes by %v share memory", len(s), r)
			}
		}
	}
}

func TestChunksAreNewMemory(t *testing.T) {
	for _, r := range rightRules {
		for _, text := range []string{"a", "aa", "the quick brown fox", mixed(1500, 9)} {
			s := strings.Clone(text)
			one, other := impl.Chunks(s, r), impl.Chunks(s, r)
			picture := slices.Clone(one)
			for i := range one {
				apart(t, "a chunk and the text", one[i], s)
				apart(t, "chunks of two answers", one[i], other[i])
				if i > 0 {
					apart(t, "chunks of one answer", one[i], one[i-1])
				}
			}
			scribble(other, "scribble")
			if !slices.Equal(one, picture) || !slices.Equal(impl.Chunks(s, r), picture) {
				t.Errorf("Chunks of %d bytes by %v share memory", len(s), r)
			}
		}
	}
}

// A text of one byte is made by its conversion, which lies where all such texts do.
func TestTextsOfOneByteAreNewMemory(t *testing.T) {
	for b := range 256 {
		s := string([]byte{byte(b)})
		apart(t, "Chunks", impl.Chunks(s, benchRule)[0], s)
		apart(t, "Glued", impl.Glued([]string{s}), s)
		apart(t, "two times Glued", impl.Glued([]string{s}), impl.Glued([]string{s}))
	}
}

func TestGluedIsNewMemory(t *testing.T) {
	for _, list := range [][]string{{"a"}, {"", "abc", ""}, {"the quick ", "brown fox"}, {mixed(impl.MaxBytes, 6)}, {mixed(600, 6), ""}} {
		one, other := impl.Glued(list), impl.Glued(list)
		apart(t, "two times Glued", one, other)
		for _, s := range list {
			apart(t, "Glued", one, s)
		}
	}
}

func TestCuttingKeepsNothingFromCallToCall(t *testing.T) {
	for range 3 {
		for _, s := range []string{"the quick brown fox", mixed(100, 2), "", "a", mixed(101, 3)} {
			for _, r := range rightRules[:4] {
				cutsAre(t, s, r)
				impl.Cuts(s, impl.Rule{})
				impl.Next(s, impl.Rule{Window: 17})
				impl.Glued([]string{strings.Repeat("m", impl.MaxBytes), s, "x"})
				impl.Shared([]int64{2, 1}, nil, 0)
			}
		}
	}
}
