package tests

import (
	"math"
	"math/big"
	"slices"
	"strings"
	"testing"

	"loop.example/g00260/impl"
)

// mostCodes is how many counts, lengths or codes to be decoded by there may be, longestCode the greatest length of a code.
const mostCodes = 32
const longestCode = 40

// rightCounts are counts of all shapes: ordinary ones, each bound, and such where the first number decides.
func rightCounts() [][]int64 {
	list := [][]int64{
		{5, 1, 1, 2}, {1}, {7}, {impl.MaxCount}, {1, 1}, {1, 2}, {2, 1}, {1, impl.MaxCount}, {impl.MaxCount, 1},
		{3, 3, 3}, {1, 1, 2}, {2, 1, 1}, {1, 2, 1}, {2, 2, 1, 1}, {1, 1, 2, 2}, {2, 1, 1, 2, 4}, {4, 2, 1, 1, 2},
		{45, 13, 12, 16, 9, 5}, {8, 4, 2, 1, 1}, {1, 1, 1, 1, 1, 1, 1, 2, 3}, {impl.MaxCount, impl.MaxCount, impl.MaxCount, 1},
		doubling(17), fibonacci(25), reversed(doubling(17)), reversed(fibonacci(25)),
	}
	for size := 2; size <= mostCodes; size++ {
		list = append(list, slices.Repeat([]int64{1}, size), slices.Repeat([]int64{impl.MaxCount}, size))
		list = append(list, countsOf(size, uint32(size), 3), countsOf(size, uint32(size), 40), countsOf(size, uint32(size), impl.MaxCount))
	}
	return list
}

// doubling are counts each of which is twice the one ahead, to the last that is none too great.
func doubling(size int) []int64 {
	list := []int64{1}
	for len(list) < size {
		list = append(list, 2*list[len(list)-1])
	}
	return list
}

// fibonacci are counts that make the greatest length there can be.
func fibonacci(size int) []int64 {
	list := []int64{1, 1}
	for len(list) < size {
		list = append(list, list[len(list)-1]+list[len(list)-2])
	}
	return list
}

func reversed(list []int64) []int64 {
	other := slices.Clone(list)
	slices.Reverse(other)
	return other
}

// countsOf are this many counts from 1 to most, others for another seed.
func countsOf(size int, seed uint32, most int64) []int64 {
	list := make([]int64, size)
	for i := range list {
		seed = seed*1664525 + 1013904223
		list[i] = 1 + int64(seed>>8)%most
	}
	return list
}

// wrongCounts are lists that are no counts.
func wrongCounts() [][]int64 {
	list := [][]int64{nil, {}, slices.Repeat([]int64{1}, mostCodes+1), slices.Repeat([]int64{impl.MaxCount}, mostCodes+1), make([]int64, 1000), countsOf(5000, 3, 9)}
	for _, n := range []int64{0, -1, -2, impl.MaxCount + 1, impl.MaxCount + 2, 1 << 32, 1<<32 + 1, math.MaxInt32, math.MinInt32, math.MaxInt64, math.MaxInt64 - 1, math.MinInt64, math.MinInt64 + 1} {
		list = append(list, []int64{n}, []int64{n, 1}, []int64{1, n}, []int64{n, n}, []int64{1, 2, n, 3}, append(countsOf(mostCodes-1, 1, 9), n))
	}
	return list
}

// rightLengths are lengths that are Kraft.
func rightLengths() [][]int64 {
	list := [][]int64{
		{1}, {2}, {39}, {40}, {1, 1}, {1, 2}, {2, 1}, {2, 2}, {1, 40}, {40, 1}, {40, 40}, {1, 2, 2}, {2, 1, 2}, {2, 2, 1}, {1, 3, 3, 2}, {3, 3, 3}, {2, 2, 2, 2}, {2, 2, 2, 3, 3},
		{3, 1, 3, 2}, {1, 2, 3, 4, 5, 6, 7, 7}, {7, 7, 6, 5, 4, 3, 2, 1}, {5, 9, 5, 40, 9, 5, 33}, {40, 39, 38}, {20, 40, 20, 40}, {32, 33, 31, 34},
		slices.Repeat([]int64{5}, mostCodes), slices.Repeat([]int64{6}, mostCodes), slices.Repeat([]int64{40}, mostCodes), slices.Repeat([]int64{4}, 16), chain(mostCodes), reversed(chain(mostCodes)),
	}
	for _, counts := range rightCounts() {
		list = append(list, lengthsOf(counts))
	}
	return list
}

// chain is 1, 2, 3 and so on, the last one twice: the sum is just 1.
func chain(size int) []int64 {
	var list []int64
	for length := range int64(size - 1) {
		list = append(list, length+1)
	}
	return append(list, int64(size-1))
}

// wrongLengths are lists of which one length or more is past a bound, or that are none or too many.
func wrongLengths() [][]int64 {
	list := [][]int64{nil, {}, slices.Repeat([]int64{40}, mostCodes+1), slices.Repeat([]int64{6}, mostCodes+1), make([]int64, mostCodes), countsOf(5000, 3, 40)}
	for _, n := range []int64{0, -1, -2, -40, longestCode + 1, longestCode + 2, 63, 64, 65, 1 << 32, 1<<32 + 1, math.MaxInt64, math.MaxInt64 - 1, math.MinInt64, math.MinInt64 + 1} {
		list = append(list, []int64{n}, []int64{n, 2}, []int64{2, n}, []int64{n, n}, []int64{2, 3, n, 4}, append(slices.Repeat([]int64{40}, mostCodes-1), n))
	}
	return list
}

// crowded are lengths within their bounds whose sum is more than 1: the last ones by the least there can be.
func crowded() [][]int64 {
	return [][]int64{
		{1, 1, 1}, {1, 2, 1}, {1, 1, 2}, {1, 2, 2, 2}, {2, 2, 2, 2, 2}, {1, 2, 3, 3, 3}, slices.Repeat([]int64{1}, mostCodes), slices.Repeat([]int64{4}, 17), slices.Repeat([]int64{4}, mostCodes),
		append(slices.Repeat([]int64{5}, mostCodes-1), 4), {1, 1, 40}, {40, 1, 1}, {1, 40, 1}, {2, 2, 2, 2, 40}, append(chain(mostCodes-1), 40), append(slices.Repeat([]int64{4}, 16), 40),
	}
}

// lengthsOf tells Lengths step by step, as the document's words have it: groups stand in a row, which is searched for the least.
func lengthsOf(counts []int64) []int64 {
	lengths := make([]int64, len(counts))
	if len(counts) == 1 {
		return []int64{1}
	}
	type pile struct {
		count int64
		in    map[int]bool
	}
	var groups []pile
	for i, count := range counts {
		groups = append(groups, pile{count, map[int]bool{i: true}})
	}
	first := func(g pile) int {
		for i := range counts {
			if g.in[i] {
				return i
			}
		}
		return -1
	}
	take := func() pile {
		least := 0
		for i, g := range groups {
			if g.count < groups[least].count || g.count == groups[least].count && first(g) < first(groups[least]) {
				least = i
			}
		}
		g := groups[least]
		groups = slices.Delete(groups, least, least+1)
		return g
	}
	for len(groups) > 1 {
		one, other := take(), take()
		for i := range other.in {
			one.in[i] = true
		}
		for i := range one.in {
			lengths[i]++
		}
		groups = append(groups, pile{one.count + other.count, one.in})
	}
	return lengths
}

// kraftSum is the sum of all 1 / 2^length, as a fraction.
func kraftSum(lengths []int64) *big.Rat {
	sum := new(big.Rat)
	for _, length := range lengths {
		part := new(big.Int).Lsh(big.NewInt(1), uint(length))
		sum.Add(sum, new(big.Rat).SetFrac(big.NewInt(1), part))
	}
	return sum
}

// codesOf tells Codes of lengths that are Kraft, each by itself: it begins where those ahead of it end, as parts of 1, of which it tells the first bits.
func codesOf(lengths []int64) []string {
	var list []string
	for i, length := range lengths {
		var ahead []int64
		for j, other := range lengths {
			if other < length || other == length && j < i {
				ahead = append(ahead, other)
			}
		}
		at := kraftSum(ahead)
		var code []byte
		for range length {
			at.Add(at, at)
			bit := at.Cmp(big.NewRat(1, 1)) >= 0
			if bit {
				at.Sub(at, big.NewRat(1, 1))
				code = append(code, '1')
				continue
			}
			code = append(code, '0')
		}
		list = append(list, string(code))
	}
	return list
}

// codedOf tells Coded of a text whose bytes all have a code.
func codedOf(s string, codes []string) string {
	var parts []string
	for _, b := range []byte(s) {
		parts = append(parts, codes[b])
	}
	return strings.Join(parts, "")
}

// decodedOf tells Decoded of codes and bits that are within their limits: at each place it holds the codes against the bits one by one.
func decodedOf(bits string, codes []string) (string, bool) {
	if slices.Contains(codes, "") {
		return "", false
	}
	text := ""
	for at := 0; at < len(bits); {
		found := false
		for i, code := range codes {
			if at+len(code) <= len(bits) && bits[at:at+len(code)] == code {
				text += string([]byte{byte(i)})
				at += len(code)
				found = true
				break
			}
		}
		if !found {
			return "", false
		}
	}
	return text, true
}

// leastCost is the least Cost of all lengths from 1 to longest that are Kraft, each tried.
func leastCost(counts []int64, longest int64) int64 {
	least := int64(math.MaxInt64)
	lengthLists(len(counts), longest, func(lengths []int64) {
		if kraftSum(lengths).Cmp(big.NewRat(1, 1)) > 0 {
			return
		}
		cost := int64(0)
		for i, length := range lengths {
			cost += counts[i] * length
		}
		least = min(least, cost)
	})
	return least
}

// lengthLists calls see with each list of this many numbers from 1 to longest.
func lengthLists(size int, longest int64, see func([]int64)) {
	if size == 0 {
		see(nil)
		return
	}
	for n := int64(1); n <= longest; n++ {
		lengthLists(size-1, longest, func(rest []int64) { see(append([]int64{n}, rest...)) })
	}
}

// joinedCost is the least Cost there can be, by a way of its own: each time two counts are joined they cost their sum.
func joinedCost(counts []int64) int64 {
	if len(counts) == 1 {
		return counts[0]
	}
	rest := slices.Sorted(slices.Values(counts))
	cost := int64(0)
	for len(rest) > 1 {
		both := rest[0] + rest[1]
		cost += both
		rest = append(rest[2:], both)
		slices.Sort(rest)
	}
	return cost
}

// codesFit fails where a code is not as long as told, is of other bytes than 0 and 1, or begins another one.
func codesFit(t *testing.T, lengths []int64, codes []string) {
	t.Helper()
	if len(codes) != len(lengths) {
		t.Fatalf("Codes of %v are %d", lengths, len(codes))
	}
	for i, code := range codes {
		if int64(len(code)) != lengths[i] || strings.Trim(code, "01") != "" {
			t.Fatalf("code %d of %v is %q", i, lengths, code)
		}
		for j, other := range codes {
			if i != j && strings.HasPrefix(other, code) {
				t.Fatalf("of %v: code %d, %q, begins code %d, %q", lengths, i, code, j, other)
			}
		}
	}
}

// comesBack fails where Coded of a text is not what the document asks for, or Decoded of it is not the text.
func comesBack(t *testing.T, s string, codes []string) {
	t.Helper()
	bits, is := impl.Coded(s, codes)
	if wanted := codedOf(s, codes); !is || bits != wanted {
		t.Fatalf("Coded of %.40q by %q is %.40q, %v, not %.40q", s, codes, bits, is, wanted)
	}
	if text, is := impl.Decoded(bits, codes); !is || text != s {
		t.Fatalf("Decoded of Coded of %.40q by %q is %.40q, %v", s, codes, text, is)
	}
}

// textOf is a text of this many bytes that have codes, so many there are.
func textOf(size, codes int, seed uint32) string {
	row := []byte(mixed(size, seed))
	for i, b := range row {
		row[i] = byte(int(b) % codes)
	}
	return string(row)
}

func TestLengthsAreTheListTheDocumentTells(t *testing.T) {
	for _, c := range []struct {
		why             string
		counts, lengths []int64
	}{
		{"some", []int64{5, 1, 1, 2}, []int64{1, 3, 3, 2}},
		{"six", []int64{45, 13, 12, 16, 9, 5}, []int64{1, 3, 3, 3, 4, 4}},
		{"no count", nil, nil},
		{"one", []int64{7}, []int64{1}},
		{"one, the least", []int64{1}, []int64{1}},
		{"one, the greatest", []int64{impl.MaxCount}, []int64{1}},
		{"two", []int64{7, 9}, []int64{1, 1}},
		{"two at the bounds", []int64{impl.MaxCount, 1}, []int64{1, 1}},
		{"two alike", []int64{4, 4}, []int64{1, 1}},
		{"three alike: the first two join", []int64{3, 3, 3}, []int64{2, 2, 1}},
		{"four alike", []int64{3, 3, 3, 3}, []int64{2, 2, 2, 2}},
		{"five alike", []int64{1, 1, 1, 1, 1}, []int64{3, 3, 2, 2, 2}},
		{"six alike", []int64{2, 2, 2, 2, 2, 2}, []int64{3, 3, 3, 3, 2, 2}},
		{"that double", []int64{1, 2, 4, 8, 16}, []int64{4, 4, 3, 2, 1}},
		{"that halve", []int64{16, 8, 4, 2, 1}, []int64{1, 2, 3, 4, 4}},
		{"a group's first number is less than that of a count", []int64{1, 1, 2, 2}, []int64{3, 3, 2, 1}},
		{"a group's first number is more", []int64{2, 2, 1, 1}, []int64{2, 2, 2, 2}},
		{"a group's first number is between", []int64{2, 1, 1, 2}, []int64{2, 3, 3, 1}},
		{"one that is least in the end", []int64{1, 1, 2, 3, 2}, []int64{3, 3, 2, 2, 2}},
		{"of both first numbers that of the greater count is less", []int64{2, 3, 3, 1}, []int64{3, 2, 1, 3}},
		{"of both first numbers that of the less count is less", []int64{1, 3, 3, 2}, []int64{3, 2, 1, 3}},
		{"the count decides ahead of the first number", []int64{2, 3, 4, 1}, []int64{3, 2, 1, 3}},
		{"32", append([]int64{31}, slices.Repeat([]int64{1}, mostCodes-1)...), append(append([]int64{1}, slices.Repeat([]int64{6}, mostCodes-2)...), 5)},
	} {
		if list := impl.Lengths(c.counts); !slices.Equal(list, c.lengths) {
			t.Errorf("%s: Lengths(%v) is %v, not %v", c.why, c.counts, list, c.lengths)
		}
	}
}

func TestLengthsStepByStep(t *testing.T) {
	for _, counts := range rightCounts() {
		if list, wanted := impl.Lengths(counts), lengthsOf(counts); !slices.Equal(list, wanted) {
			t.Errorf("Lengths(%v) is %v, not %v", counts, list, wanted)
		}
	}
	// Few counts make many alike ones, so that the first number decides.
	for size := 1; size <= 6; size++ {
		lengthLists(size, 4, func(counts []int64) {
			if list, wanted := impl.Lengths(counts), lengthsOf(counts); !slices.Equal(list, wanted) {
				t.Fatalf("Lengths(%v) is %v, not %v", counts, list, wanted)
			}
		})
	}
	for seed := range uint32(400) {
		counts := countsOf(1+int(seed)%mostCodes, seed, 1+int64(seed%13))
		if list, wanted := impl.Lengths(counts), lengthsOf(counts); !slices.Equal(list, wanted) {
			t.Fatalf("Lengths(%v) is %v, not %v", counts, list, wanted)
		}
	}
}

func TestLengthsOfWhatAreNoCounts(t *testing.T) {
	for _, counts := range wrongCounts() {
		if list := impl.Lengths(counts); len(list) != 0 {
			t.Errorf("Lengths of %d counts, %.40v, are %v", len(counts), counts, list)
		}
	}
}

func TestLengthsOfTheGreatestLength(t *testing.T) {
	counts := fibonacci(25)
	if counts[24] > impl.MaxCount || counts[24]+counts[23] <= impl.MaxCount {
		t.Fatalf("%v does not end at the last one that is a count", counts)
	}
	if list := impl.Lengths(counts); list[0] != 24 || list[1] != 24 || list[2] != 23 || list[24] != 1 {
		t.Errorf("Lengths(%v) is %v", counts, list)
	}
}

// Promise 5, its first part, with all Kraft lengths tried.
func TestNoKraftLengthsCostLess(t *testing.T) {
	tried := [][]int64{{9}, {5, 1, 1, 2}, {1, 2, 4, 8, 16}, {16, 8, 4, 2, 1}, {1, 1, 2, 3, 5}, {3, 3, 3, 3, 3}, {impl.MaxCount, 1, 1, 1, 1}, {impl.MaxCount, 1, impl.MaxCount, 7}, {45, 13, 12, 16, 9}}
	for size := 1; size <= 4; size++ {
		lengthLists(size, 4, func(counts []int64) { tried = append(tried, counts) })
	}
	for seed := range uint32(40) {
		tried = append(tried, countsOf(5, seed, 1+int64(seed*seed)))
	}
	for _, counts := range tried {
		lengths := impl.Lengths(counts)
		// A length of more than the counts are never makes less: there are bits to spare at it.
		if cost, least := impl.Cost(counts, lengths), leastCost(counts, int64(len(counts))); cost != least {
			t.Fatalf("Lengths(%v) is %v and costs %d, not %d", counts, lengths, cost, least)
		}
	}
}

// Promise 5, its first part, of many counts.
func TestNoJoiningCostsLess(t *testing.T) {
	others := rightLengths()
	for _, counts := range rightCounts() {
		lengths := impl.Lengths(counts)
		if !impl.Kraft(lengths) {
			t.Errorf("Lengths(%v) is %v, which is not Kraft", counts, lengths)
		}
		if cost, least := impl.Cost(counts, lengths), joinedCost(counts); cost != least {
			t.Errorf("Lengths(%v) is %v and costs %d, not %d", counts, lengths, cost, least)
		}
		// Of two counts and more no bit is left over.
		if full := kraftSum(lengths).Cmp(big.NewRat(1, 1)) == 0; full != (len(counts) > 1) {
			t.Errorf("the sum of %v is %v", lengths, kraftSum(lengths))
		}
		for _, other := range others {
			if cost := impl.Cost(counts, other); cost >= 0 && cost < impl.Cost(counts, lengths) {
				t.Errorf("of %v: %v costs %d, %v %d", counts, lengths, impl.Cost(counts, lengths), other, cost)
			}
		}
	}
}

func TestCostIsTheSumTheDocumentTells(t *testing.T) {
	for _, c := range []struct {
		why             string
		counts, lengths []int64
		cost            int64
	}{
		{"some", []int64{5, 1, 1, 2}, []int64{1, 3, 3, 2}, 15},
		{"each count by its own length", []int64{2, 30, 400}, []int64{3, 2, 1}, 466},
		{"one", []int64{7}, []int64{1}, 7},
		{"lengths that are not Kraft", []int64{5, 6, 7}, []int64{1, 1, 1}, 18},
		{"lengths that nobody needs", []int64{5, 6}, []int64{40, 39}, 434},
		{"the least", []int64{1}, []int64{1}, 1},
		{"all at their bounds", []int64{impl.MaxCount}, []int64{longestCode}, 4000000},
		{"32 at their bounds", slices.Repeat([]int64{impl.MaxCount}, mostCodes), slices.Repeat([]int64{longestCode}, mostCodes), 128000000},
		{"a length of 1 and one of 40", []int64{3, 4}, []int64{1, 40}, 163},
		{"no counts", nil, nil, -1},
		{"no counts, empty ones", []int64{}, []int64{}, -1},
		{"no counts, a length", nil, []int64{1}, -1},
		{"a length less", []int64{1, 2, 3}, []int64{2, 2}, -1},
		{"a length more", []int64{1, 2, 3}, []int64{2, 2, 2, 2}, -1},
		{"no lengths", []int64{1, 2, 3}, nil, -1},
		{"33", slices.Repeat([]int64{1}, mostCodes+1), slices.Repeat([]int64{6}, mostCodes+1), -1},
		{"32 and 33", slices.Repeat([]int64{1}, mostCodes), slices.Repeat([]int64{6}, mostCodes+1), -1},
		{"33 and 32", slices.Repeat([]int64{1}, mostCodes+1), slices.Repeat([]int64{6}, mostCodes), -1},
	} {
		if n := impl.Cost(c.counts, c.lengths); n != c.cost {
			t.Errorf("%s: Cost(%v, %v) is %d, not %d", c.why, c.counts, c.lengths, n, c.cost)
		}
	}
}

func TestCostOfWhatIsNotRight(t *testing.T) {
	for _, counts := range wrongCounts() {
		for _, lengths := range [][]int64{nil, {1}, {2, 2}, slices.Repeat([]int64{6}, len(counts)), counts} {
			if n := impl.Cost(counts, lengths); n != -1 {
				t.Errorf("Cost(%.40v, %.40v) is %d, not -1", counts, lengths, n)
			}
		}
	}
	for _, lengths := range wrongLengths() {
		for _, counts := range [][]int64{nil, {1}, {2, 2}, slices.Repeat([]int64{6}, len(lengths)), lengths} {
			if n := impl.Cost(counts, lengths); n != -1 {
				t.Errorf("Cost(%.40v, %.40v) is %d, not -1", counts, lengths, n)
			}
		}
	}
}

func TestCostOfEveryPairOfLists(t *testing.T) {
	all := rightLengths()
	for _, counts := range rightCounts() {
		for _, lengths := range all {
			wanted := int64(-1)
			if len(counts) == len(lengths) {
				wanted = 0
				for i, count := range counts {
					wanted += count * lengths[i]
				}
			}
			if n := impl.Cost(counts, lengths); n != wanted {
				t.Fatalf("Cost(%v, %v) is %d, not %d", counts, lengths, n, wanted)
			}
		}
	}
}

func TestKraftAtEachBound(t *testing.T) {
	for _, lengths := range rightLengths() {
		if !impl.Kraft(lengths) {
			t.Errorf("Kraft(%v) is false", lengths)
		}
	}
	for _, lengths := range append(wrongLengths(), crowded()...) {
		if impl.Kraft(lengths) {
			t.Errorf("Kraft of %d lengths, %.40v, is true", len(lengths), lengths)
		}
		if codes := impl.Codes(lengths); len(codes) != 0 {
			t.Errorf("Codes of %d lengths, %.40v, are %.40q", len(lengths), lengths, codes)
		}
	}
}

func TestKraftOfEveryShortList(t *testing.T) {
	one := big.NewRat(1, 1)
	for size := 1; size <= 6; size++ {
		lengthLists(size, 5, func(lengths []int64) {
			if is := impl.Kraft(lengths); is != (kraftSum(lengths).Cmp(one) <= 0) {
				t.Fatalf("Kraft(%v) is %v, the sum is %v", lengths, is, kraftSum(lengths))
			}
		})
	}
}

// What is full takes nothing more, not even the least; what a least part is taken from takes one of it again.
func TestKraftOfTheLeastPart(t *testing.T) {
	for _, full := range [][]int64{{1, 1}, {2, 1, 2}, slices.Repeat([]int64{4}, 16), chain(5), chain(31)} {
		if !impl.Kraft(full) || impl.Kraft(append([]int64{longestCode}, full...)) || impl.Kraft(append(slices.Clone(full), longestCode)) {
			t.Errorf("Kraft of %v, whose sum is 1, or of it and %d, is wrong", full, longestCode)
		}
	}
	// 1 to 31 leave as much as one of 31 has.
	almost := append(chain(32)[:31], 0)
	for _, last := range []int64{1, 2, 29, 30, 31, 32, 33, 39, longestCode} {
		almost[31] = last
		if is := impl.Kraft(almost); is != (last >= 31) {
			t.Errorf("Kraft(%v) is %v", almost, is)
		}
	}
}

func TestCodesAreTheTextsTheDocumentTells(t *testing.T) {
	nought := strings.Repeat("0", longestCode)
	for _, c := range []struct {
		why     string
		lengths []int64
		codes   []string
	}{
		{"some", []int64{1, 3, 3, 2}, []string{"0", "110", "111", "10"}},
		{"one", []int64{1}, []string{"0"}},
		{"one that is long", []int64{4}, []string{"0000"}},
		{"one of 40", []int64{longestCode}, []string{nought}},
		{"two", []int64{1, 1}, []string{"0", "1"}},
		{"two of 2", []int64{2, 2}, []string{"00", "01"}},
		{"the least first", []int64{2, 1}, []string{"10", "0"}},
		{"of alike ones the first", []int64{3, 2, 3, 2}, []string{"100", "00", "101", "01"}},
		{"bits to spare", []int64{5, 3, 1}, []string{"10100", "100", "0"}},
		{"a carry over all bits", []int64{3, 3, 3, 3, 1}, []string{"100", "101", "110", "111", "0"}},
		{"1 and 40", []int64{longestCode, 1}, []string{"1" + nought[1:], "0"}},
		{"40 twice", []int64{longestCode, longestCode}, []string{nought, nought[1:] + "1"}},
		{"a chain", []int64{5, 4, 3, 2, 1, 5}, []string{"11110", "1110", "110", "10", "0", "11111"}},
		{"past 32 bits", []int64{33, 1, 34}, []string{"1" + nought[:32], "0", "1" + nought[:31] + "10"}},
	} {
		if codes := impl.Codes(c.lengths); !slices.Equal(codes, c.codes) {
			t.Errorf("%s: Codes(%v) is %q, not %q", c.why, c.lengths, codes, c.codes)
		}
	}
}

// Promise 5, its third part.
func TestNoCodeBeginsWithAnother(t *testing.T) {
	see := func(lengths []int64) {
		codes := impl.Codes(lengths)
		codesFit(t, lengths, codes)
		if wanted := codesOf(lengths); !slices.Equal(codes, wanted) {
			t.Fatalf("Codes(%v) is %q, not %q", lengths, codes, wanted)
		}
	}
	for _, lengths := range rightLengths() {
		see(lengths)
	}
	for size := 1; size <= 5; size++ {
		lengthLists(size, 5, func(lengths []int64) {
			if impl.Kraft(lengths) {
				see(lengths)
			}
		})
	}
}

// Promise 5, its second part.
func TestDecodedOfCodedIsTheText(t *testing.T) {
	for _, lengths := range rightLengths() {
		codes := impl.Codes(lengths)
		comesBack(t, "", codes)
		for b := range codes {
			comesBack(t, string([]byte{byte(b)}), codes)
			comesBack(t, strings.Repeat(string([]byte{byte(b)}), 9), codes)
		}
		for seed := range uint32(5) {
			comesBack(t, textOf(2+int(seed*seed)*25, len(codes), seed), codes)
		}
	}
}

func TestDecodedOfCodedOfEveryShortText(t *testing.T) {
	for _, counts := range [][]int64{{9}, {1, 1}, {5, 1, 2}, {5, 1, 1, 2}} {
		codes := impl.Codes(impl.Lengths(counts))
		texts("\x00\x01\x02\x03"[:len(counts)], 5, func(s string) { comesBack(t, s, codes) })
	}
}

// What a text costs is what its Coded takes: the functions of the chapter, each against the other ones.
func TestCostIsWhatCodedTakes(t *testing.T) {
	for seed := range uint32(60) {
		s := textOf(1+int(seed)*11, 1+int(seed)%mostCodes, seed)
		counts := make([]int64, slices.Max([]byte(s))+1)
		for _, b := range []byte(s) {
			counts[b]++
		}
		for b := range counts {
			// A byte that is not there stands for a count, too: it comes once behind the text.
			if counts[b] == 0 {
				s += string([]byte{byte(b)})
				counts[b] = 1
			}
		}
		lengths := impl.Lengths(counts)
		bits, is := impl.Coded(s, impl.Codes(lengths))
		if !is || int64(len(bits)) != impl.Cost(counts, lengths) || int64(len(bits)) != joinedCost(counts) {
			t.Fatalf("Coded of %d bytes has %d bits, %v, the Cost is %d", len(s), len(bits), is, impl.Cost(counts, lengths))
		}
		comesBack(t, s, impl.Codes(lengths))
	}
}

func TestCodedIsTheTextTheDocumentTells(t *testing.T) {
	some := []string{"0", "110", "111", "10"}
	long := []string{"", strings.Repeat("1", impl.MaxBytes), strings.Repeat("1", impl.MaxBytes+1), strings.Repeat("0", impl.MaxBytes-1), "0", "01"}
	many := strings.Split(strings.Repeat("0 ", 255)+"1", " ")
	for _, c := range []struct {
		why, text string
		codes     []string
		bits      string
		is        bool
	}{
		{"some", "\x00\x03\x02", some, "010111", true},
		{"in order", "\x03\x00\x00\x01", some, "1000110", true},
		{"the last code", "\x03", some, "10", true},
		{"no code for the byte", "\x04", some, "", false},
		{"no code for the first byte", "\x04\x00", some, "", false},
		{"no code for the last byte", "\x00\x01\x04", some, "", false},
		{"no code for 255", "\x00\xff", some, "", false},
		{"no code for a digit", "0", some, "", false},
		{"a rune is its bytes", "\u0002", some, "111", true},
		{"no rune, its first byte", "\u0080", some, "", false},
		{"no codes", "\x00", nil, "", false},
		{"no codes, an empty list", "\x00", []string{}, "", false},
		{"an empty text", "", some, "", true},
		{"an empty text, no codes", "", nil, "", true},
		{"an empty text, codes that are not right", "", []string{"", "0", "0"}, "", true},
		{"a code for each byte", "\x00\xff\xfe", many, "010", true},
		{"codes of other bytes", "\x01\x00", []string{"ab", "\xff\n"}, "\xff\nab", true},
		{"an empty code", "\x00\x01\x00", []string{"", "0"}, "0", true},
		{"empty codes alone", strings.Repeat("\x00", impl.MaxBytes+1), []string{""}, "", true},
		{"MaxBytes in one", "\x01", long, long[1], true},
		{"MaxBytes in one, and empty ones", "\x00\x01\x00", long, long[1], true},
		{"MaxBytes in two", "\x03\x04", long, long[3] + "0", true},
		{"MaxBytes in two, the other way", "\x04\x03", long, "0" + long[3], true},
		{"MaxBytes in many", strings.Repeat("\x04", impl.MaxBytes), long, strings.Repeat("0", impl.MaxBytes), true},
		{"one byte less", strings.Repeat("\x04", impl.MaxBytes-1), long, long[3], true},
		{"one byte more, in one", "\x02", long, "", false},
		{"one byte more, the last one", "\x01\x04", long, "", false},
		{"one byte more, by a code of two", "\x03\x05", long, "", false},
		{"one byte more, in two", "\x04\x01", long, "", false},
		{"one byte more, in many", strings.Repeat("\x04", impl.MaxBytes+1), long, "", false},
		{"too many, and empty ones behind", "\x01\x04\x00", long, "", false},
		{"far too many", strings.Repeat("\x02", 1000), long, "", false},
	} {
		if bits, is := impl.Coded(c.text, c.codes); bits != c.bits || is != c.is {
			t.Errorf("%s: Coded(%.40q, %.40q) is %d bytes, %.40q, %v, not %.40q, %v", c.why, c.text, c.codes, len(bits), bits, is, c.bits, c.is)
		}
	}
}

func TestDecodedIsTheTextTheDocumentTells(t *testing.T) {
	some := []string{"0", "110", "111", "10"}
	noughts := strings.Repeat("0", impl.MaxBytes)
	full := impl.Codes(slices.Repeat([]int64{5}, mostCodes))
	for _, c := range []struct {
		why, bits string
		codes     []string
		text      string
		is        bool
	}{
		{"some", "010111", some, "\x00\x03\x02", true},
		{"each", "011011110", some, "\x00\x01\x02\x03", true},
		{"one", "0", some, "\x00", true},
		{"the end inside a code", "11", some, "", false},
		{"the end inside a code, behind others", "01101", some, "", false},
		{"nothing begins so", "1", []string{"0"}, "", false},
		{"nothing begins so, behind others", "001", []string{"0"}, "", false},
		{"other bytes than 0 and 1", "0120", some, "", false},
		{"a space", "0 10", some, "", false},
		{"a byte 0", "\x00", some, "", false},
		{"a line behind", "010111\n", some, "", false},
		{"codes of other bytes", "baab", []string{"ab", "ba"}, "\x01\x00", true},
		{"codes of bytes that are no runes", "\xff\x80\xff", []string{"\x80", "\xff"}, "\x01\x00\x01", true},
		{"no bits", "", some, "", true},
		{"no bits, no codes", "", nil, "", true},
		{"no bits, an empty list", "", []string{}, "", true},
		{"no codes", "0", nil, "", false},
		{"no codes, an empty list", "1", []string{}, "", false},
		{"an empty code", "0", []string{"0", ""}, "", false},
		{"an empty code, the first", "0", []string{"", "0"}, "", false},
		{"an empty code alone", "0", []string{""}, "", false},
		{"an empty code, no bits", "", []string{"0", "", "1"}, "", false},
		{"an empty code behind what is found", "000", []string{"0", "1", ""}, "", false},
		{"one begins another: the first one, it is shorter", "01", []string{"0", "01", "1"}, "\x00\x02", true},
		{"one begins another: the first one, it is longer", "01", []string{"01", "0", "1"}, "\x00", true},
		{"one begins another: there is no way back", "01", []string{"0", "01"}, "", false},
		{"one begins another: there is no way back behind others", "0010", []string{"1", "001", "00", "01"}, "", false},
		{"one begins another: the longer one is not there yet", "0001", []string{"001", "0", "1"}, "\x01\x00", true},
		{"two are alike: the first one", "0110", []string{"1", "0", "0", "1"}, "\x01\x00\x00\x01", true},
		{"all are alike", "000", slices.Repeat([]string{"0"}, mostCodes), "\x00\x00\x00", true},
		{"the first in number, not in order", "1100", []string{"11", "1", "00", "0"}, "\x00\x02", true},
		{"32 codes", "0000011111", full, "\x00\x1f", true},
		{"33 codes", "0000011111", append(slices.Clone(full), "000000"), "", false},
		{"33 codes, no bits", "", append(slices.Clone(full), "000000"), "", false},
		{"33 codes, all alike", "000", slices.Repeat([]string{"0"}, mostCodes+1), "", false},
		{"a code for each byte", "0", slices.Repeat([]string{"0"}, 256), "", false},
		{"MaxBytes bits", noughts, some, strings.Repeat("\x00", impl.MaxBytes), true},
		{"MaxBytes bits by one code", noughts, []string{"1", noughts}, "\x01", true},
		{"MaxBytes bits, the last one is wrong", noughts[1:] + "1", some, "", false},
		{"one bit more", noughts + "0", some, "", false},
		{"one bit more by one code", noughts + "0", []string{noughts + "0"}, "", false},
		{"a code longer than the bits", "00", []string{"000", "00"}, "\x01", true},
		{"a code longer than all bits", "00", []string{noughts + "0", "0"}, "\x01\x01", true},
	} {
		if text, is := impl.Decoded(c.bits, c.codes); text != c.text || is != c.is {
			t.Errorf("%s: Decoded(%.40q, %.40q) is %.40q, %v, not %.40q, %v", c.why, c.bits, c.codes, text, is, c.text, c.is)
		}
	}
}

// All lists of at most three short codes, right or not, and all short bits.
func TestDecodedOfEveryShortListOfCodes(t *testing.T) {
	var all []string
	texts("01", 2, func(code string) { all = append(all, code) })
	lists := [][]string{nil}
	for from := 0; len(lists[from]) < 3; from++ {
		for _, code := range all {
			lists = append(lists, append(slices.Clone(lists[from]), code))
		}
	}
	for _, codes := range lists {
		texts("01", 5, func(bits string) {
			wanted, well := decodedOf(bits, codes)
			text, is := impl.Decoded(bits, codes)
			if text != wanted || is != well {
				t.Fatalf("Decoded(%q, %q) is %q, %v, not %q, %v", bits, codes, text, is, wanted, well)
			}
			if !is {
				return
			}
			if again, is := impl.Coded(text, codes); !is || again != bits {
				t.Fatalf("Coded(%q, %q) is %q, %v, and %q was Decoded", text, codes, again, is, bits)
			}
		})
	}
}

func TestDecodedOfWhatIsCut(t *testing.T) {
	codes := impl.Codes(impl.Lengths([]int64{5, 1, 1, 2, 9, 3}))
	bits, _ := impl.Coded(textOf(60, len(codes), 5), codes)
	for size := range len(bits) {
		wanted, well := decodedOf(bits[:size], codes)
		if text, is := impl.Decoded(bits[:size], codes); text != wanted || is != well {
			t.Fatalf("Decoded of the first %d bits is %q, %v, not %q, %v", size, text, is, wanted, well)
		}
		other := bits[:size] + "2" + bits[size+1:]
		if text, is := impl.Decoded(other, codes); text != "" || is {
			t.Fatalf("Decoded of %q is %q, %v", other, text, is)
		}
	}
}

func TestLengthsAndCodesLeaveTheirLists(t *testing.T) {
	counts := append(rightCounts(), wrongCounts()...)
	lengths := append(append(rightLengths(), wrongLengths()...), crowded()...)
	for _, given := range append(counts, lengths...) {
		list, picture := roomy(given, 7)
		impl.Lengths(list)
		impl.Kraft(list)
		impl.Codes(list)
		impl.Cost(list, slices.Repeat([]int64{6}, len(list)))
		impl.Cost(slices.Repeat([]int64{6}, len(list)), list)
		stays(t, "a list of numbers", list, picture)
	}
}

func TestCodedAndDecodedLeaveTheirArguments(t *testing.T) {
	for _, given := range [][]string{nil, {"0", "110", "111", "10"}, {"0", "", "1"}, slices.Repeat([]string{"0"}, mostCodes+1)} {
		for _, s := range []string{"", "\x00\x03\x02", "010111", "\x04", strings.Repeat("0", impl.MaxBytes+1)} {
			codes, pictureOfCodes := roomy(given, "filler")
			row, picture := roomy([]byte(s), '\x2a')
			impl.Coded(over(row), codes)
			impl.Decoded(over(row), codes)
			stays(t, "the codes", codes, pictureOfCodes)
			stays(t, "the text", row, picture)
		}
	}
	nought, pictureOfNought := roomy([]byte("0"), '\x2a')
	one, pictureOfOne := roomy([]byte("10"), '\x2a')
	for range 2 {
		if bits, is := impl.Coded("\x00\x01\x00", []string{over(nought), over(one)}); bits != "0100" || !is {
			t.Errorf("Coded is %q, %v", bits, is)
		}
		if text, is := impl.Decoded("0100", []string{over(nought), over(one)}); text != "\x00\x01\x00" || !is {
			t.Errorf("Decoded is %q, %v", text, is)
		}
		stays(t, "a code", nought, pictureOfNought)
		stays(t, "a code", one, pictureOfOne)
	}
}

func TestShortForOftenDoesNotLookIntoTheRoomBehind(t *testing.T) {
	list, _ := roomy([]int64{1, 2}, 7)
	if lengths := impl.Lengths(list); !slices.Equal(lengths, []int64{1, 1}) {
		t.Errorf("Lengths with room behind is %v", lengths)
	}
	if n := impl.Cost(list, list); n != 5 {
		t.Errorf("Cost with room behind is %d", n)
	}
	ones, _ := roomy([]int64{1, 1}, 1)
	if codes := impl.Codes(ones); !impl.Kraft(ones) || !slices.Equal(codes, []string{"0", "1"}) {
		t.Errorf("Codes with room behind is %q", codes)
	}
	codes, _ := roomy([]string{"0"}, "1")
	if bits, is := impl.Coded("\x01", codes); bits != "" || is {
		t.Errorf("Coded with room behind the codes is %q, %v", bits, is)
	}
	if text, is := impl.Decoded("01", codes); text != "" || is {
		t.Errorf("Decoded with room behind the codes is %q, %v", text, is)
	}
	row := []byte("0101")
	if text, is := impl.Decoded(over(row[:1]), []string{"01", "0"}); text != "\x01" || !is {
		t.Errorf("Decoded with room behind the bits is %q, %v", text, is)
	}
}

func TestLengthsAreNewMemory(t *testing.T) {
	for _, counts := range rightCounts() {
		given := slices.Clone(counts)
		one := impl.Lengths(counts)
		picture := slices.Clone(one)
		scribble(impl.Lengths(counts), -5)
		if !slices.Equal(one, picture) || !slices.Equal(impl.Lengths(counts), picture) {
			t.Errorf("two times Lengths(%v) share memory", counts)
		}
		scribble(one, -6)
		if !slices.Equal(counts, given) {
			t.Errorf("Lengths(%v) shares memory with its counts, now %v", given, counts)
		}
	}
}

func TestCodesAreNewMemory(t *testing.T) {
	for _, lengths := range rightLengths() {
		one, other := impl.Codes(lengths), impl.Codes(lengths)
		picture := slices.Clone(one)
		for i, code := range one {
			apart(t, "codes of two answers", code, other[i])
			for _, before := range one[:i] {
				apart(t, "codes of one answer", code, before)
			}
		}
		scribble(other, "scribble")
		if !slices.Equal(one, picture) || !slices.Equal(impl.Codes(lengths), picture) {
			t.Errorf("two times Codes(%v) share memory", lengths)
		}
	}
}

func TestCodedAndDecodedAreNewMemory(t *testing.T) {
	codes := impl.Codes([]int64{1, 3, 3, 2})
	for _, given := range []string{"\x00", "\x01", "\x00\x03\x02", strings.Repeat("\x01", 500)} {
		s := strings.Clone(given)
		bits, _ := impl.Coded(s, codes)
		again, _ := impl.Coded(s, codes)
		text, _ := impl.Decoded(bits, codes)
		twice, _ := impl.Decoded(bits, codes)
		apart(t, "two times Coded", bits, again)
		apart(t, "two times Decoded", text, twice)
		for _, other := range append([]string{s}, codes...) {
			apart(t, "Coded and an argument", bits, other)
			apart(t, "Decoded and an argument", text, other)
		}
		apart(t, "Decoded and its bits", text, bits)
	}
	// A code that is as the text: nothing of it may be handed on.
	itself := []string{strings.Clone("\x00")}
	bits, _ := impl.Coded(itself[0], itself)
	text, _ := impl.Decoded(itself[0], itself)
	apart(t, "Coded and its code", bits, itself[0])
	apart(t, "Decoded and its code", text, itself[0])
}

// A text of one byte is made by its conversion, which lies where all such texts do.
func TestCodesOfOneByteAreNewMemory(t *testing.T) {
	for b := range mostCodes {
		s := string([]byte{byte(b)})
		text, _ := impl.Decoded("1", append(slices.Repeat([]string{"0"}, b), "1"))
		if text != s {
			t.Errorf("Decoded of code %d alone is %q", b, text)
		}
		apart(t, "Decoded", text, s)
		bits, _ := impl.Coded("\x00", []string{s})
		apart(t, "Coded", bits, s)
	}
	for _, lengths := range [][]int64{{1}, {1, 1}} {
		for i, code := range impl.Codes(lengths) {
			apart(t, "Codes", code, string([]byte{byte('0' + i)}))
		}
	}
}

func TestShortForOftenKeepsNothingFromCallToCall(t *testing.T) {
	for range 3 {
		for _, counts := range rightCounts() {
			lengths := impl.Lengths(counts)
			if !slices.Equal(lengths, lengthsOf(counts)) {
				t.Fatalf("Lengths(%v) is %v", counts, lengths)
			}
			codes := impl.Codes(lengths)
			codesFit(t, lengths, codes)
			comesBack(t, textOf(30, len(codes), 4), codes)
			impl.Lengths([]int64{1, 2, 0})
			impl.Codes([]int64{1, 1, 1})
			impl.Coded("\x00\x40", codes)
			impl.Decoded("01201", codes)
			impl.Cost(counts, []int64{41})
		}
	}
}
