package tests

import (
	"math"
	"math/big"
	"slices"
	"strings"
	"testing"

	"loop.example/g00260/impl"
)

// rollModulus is the number below which every Roll is.
const rollModulus = 65521

// bigRoll tells the Roll as a sum over all bytes at once, in numbers that have no end: no step hangs on the one ahead.
func bigRoll(s string) int64 {
	sum := new(big.Int)
	for i, b := range []byte(s) {
		power := new(big.Int).Exp(big.NewInt(257), big.NewInt(int64(len(s)-1-i)), nil)
		sum.Add(sum, power.Mul(power, big.NewInt(int64(b)+1)))
	}
	return sum.Mod(sum, big.NewInt(rollModulus)).Int64()
}

// bigPower is 257 to the n as it is, modulo 65521 in the end alone.
func bigPower(n int64) int64 {
	power := new(big.Int).Exp(big.NewInt(257), big.NewInt(n), nil)
	return power.Mod(power, big.NewInt(rollModulus)).Int64()
}

// bigRolled tells Rolled, of arguments in range, as the document's words have it.
func bigRolled(h, out, in, n int64) int64 {
	sum := new(big.Int).Mul(big.NewInt(h), big.NewInt(257))
	gone := new(big.Int).Exp(big.NewInt(257), big.NewInt(n), nil)
	sum.Sub(sum, gone.Mul(gone, big.NewInt(out+1)))
	sum.Add(sum, big.NewInt(in+1))
	return sum.Mod(sum, big.NewInt(rollModulus)).Int64()
}

// rollsAre fails where Rolls is not Roll of each window, or not Rolled from each window to the next one.
func rollsAre(t *testing.T, s string, n int) {
	t.Helper()
	list := impl.Rolls(s, int64(n))
	if wanted := max(len(s)-n+1, 0); len(list) != wanted {
		t.Fatalf("Rolls of %d bytes by %d are %d, not %d", len(s), n, len(list), wanted)
	}
	for i, h := range list {
		window := s[i : i+n]
		if r := impl.Roll(window); h != r || h != bigRoll(window) {
			t.Fatalf("%.40q: number %d by %d is %d, its Roll %d, not %d", s, i, n, h, r, bigRoll(window))
		}
		if i == 0 {
			continue
		}
		if r := impl.Rolled(list[i-1], int64(s[i-1]), int64(s[i+n-1]), int64(n)); r != h {
			t.Fatalf("%.40q: Rolled to number %d by %d is %d, not %d", s, i, n, r, h)
		}
	}
}

// variety is texts of one length: bytes 0, bytes 255, both in turn, letters, and all kinds.
func variety(size int) []string {
	return []string{
		strings.Repeat("\x00", size),
		strings.Repeat("\xff", size),
		strings.Repeat("\x00\xff", size)[:size],
		strings.Repeat("\xff\xff\x00", size)[:size],
		strings.Repeat("cellar ", size)[:size],
		strings.Repeat("é", size)[:size],
		mixed(size, uint32(size)),
	}
}

func TestRollIsTheNumberTheDocumentTells(t *testing.T) {
	for _, c := range []struct {
		why, text string
		roll      int64
	}{
		{"no byte", "", 0},
		{"byte 0", "\x00", 1},
		{"byte 1", "\x01", 2},
		{"byte 128", "\x80", 129},
		{"byte 255", "\xff", 256},
		{"two bytes 0", "\x00\x00", 258},
		{"just the greatest", "\xfd\xf1", rollModulus - 1},
		{"just 0", "\xfd\xf2", 0},
		{"just 1", "\xfd\xf3", 1},
		{"two bytes 255", "\xff\xff", 527},
		{"three letters", "abc", 11766},
		{"the letters behind", "bcd", 12552},
		{"behind a 0", "\xfd\xf2a", 98},
	} {
		if r := impl.Roll(c.text); r != c.roll || bigRoll(c.text) != c.roll {
			t.Errorf("%s: Roll(%q) is %d, not %d", c.why, c.text, r, c.roll)
		}
	}
}

func TestRollOfEveryShortText(t *testing.T) {
	texts("\x00\x01\x7f\x80\xc3\xa9\xff", 5, func(s string) {
		if r := impl.Roll(s); r != bigRoll(s) {
			t.Fatalf("Roll(%q) is %d, not %d", s, r, bigRoll(s))
		}
	})
	for b := range 256 {
		for _, s := range []string{string([]byte{byte(b)}), string([]byte{'a', byte(b), 'z'})} {
			if r := impl.Roll(s); r != bigRoll(s) {
				t.Fatalf("Roll(%q) is %d, not %d", s, r, bigRoll(s))
			}
		}
	}
}

// Roll has no limit: neither MaxWindow nor MaxBytes is one for it.
func TestRollOfLongTexts(t *testing.T) {
	for _, size := range []int{impl.MaxWindow - 1, impl.MaxWindow, impl.MaxWindow + 1, 255, 1000, impl.MaxText + 1} {
		for _, s := range variety(size) {
			if r := impl.Roll(s); r != bigRoll(s) {
				t.Errorf("Roll(%.40q), of %d bytes, is %d, not %d", s, size, r, bigRoll(s))
			}
		}
	}
	for _, size := range []int{impl.MaxBytes, impl.MaxBytes + 1, 100000} {
		s := mixed(size, 11)
		// What is behind a beginning adds to its Roll, which each byte of it multiplies once more.
		h := int64(0)
		for from := 0; from < size; from += 500 {
			piece := s[from:min(from+500, size)]
			h = (h*bigPower(int64(len(piece))) + bigRoll(piece)) % rollModulus
		}
		if r := impl.Roll(s); r != h {
			t.Errorf("Roll of %d bytes is %d, not %d", size, r, h)
		}
	}
}

func TestPowerIsTheNumberTheDocumentTells(t *testing.T) {
	for n, wanted := range map[int64]int64{0: 1, 1: 257, 2: 528, 3: 4654} {
		if p := impl.Power(n); p != wanted {
			t.Errorf("Power(%d) is %d, not %d", n, p, wanted)
		}
	}
	for n := range int64(impl.MaxWindow + 1) {
		if p := impl.Power(n); p != bigPower(n) {
			t.Errorf("Power(%d) is %d, not %d", n, p, bigPower(n))
		}
	}
}

func TestPowerOutOfRange(t *testing.T) {
	for _, n := range []int64{math.MinInt64, math.MinInt64 + 1, math.MinInt32, -17, -16, -2, -1, impl.MaxWindow + 1, impl.MaxWindow + 2, 32, 256, 65521, math.MaxInt32, 1 << 32, 1<<32 + 1, math.MaxInt64 - 1, math.MaxInt64} {
		if p := impl.Power(n); p != -1 {
			t.Errorf("Power(%d) is %d, not -1", n, p)
		}
	}
}

func TestRolledIsTheNumberTheDocumentTells(t *testing.T) {
	for _, c := range []struct {
		why                   string
		h, out, in, n, rolled int64
	}{
		{"from abc to bcd", 11766, 'a', 'd', 3, 12552},
		{"all bytes 0", 1, 0, 0, 1, 1},
		{"one byte, 0 to 255", 1, 0, 255, 1, 256},
		{"one byte, 255 to 0", 256, 255, 0, 1, 1},
		{"h 0", 0, 0xfd, 0, 2, bigRoll("\xf2\x00")},
		{"the others come to h 0", bigRoll("\x00\xfd"), 0, 0xf2, 2, 0},
		{"the others come to the greatest", bigRoll("\x00\xfd"), 0, 0xf1, 2, rollModulus - 1},
		{"h is of no window that begins so", 0, 0, 0, 1, rollModulus - 256},
		{"h is of no window that begins so, all at their greatest", rollModulus - 1, 255, 255, impl.MaxWindow, bigRolled(rollModulus-1, 255, 255, impl.MaxWindow)},
	} {
		if r := impl.Rolled(c.h, c.out, c.in, c.n); r != c.rolled {
			t.Errorf("%s: Rolled(%d, %d, %d, %d) is %d, not %d", c.why, c.h, c.out, c.in, c.n, r, c.rolled)
		}
	}
}

// Whether h is of a window that begins with out can't be seen: the sum is the same, from 0 on.
func TestRolledIsFromZeroOnWhateverHIs(t *testing.T) {
	for _, h := range []int64{0, 1, 255, 256, 257, 258, 30000, rollModulus - 2, rollModulus - 1} {
		for _, out := range []int64{0, 1, 127, 128, 254, 255} {
			for _, in := range []int64{0, 1, 127, 128, 254, 255} {
				for n := int64(1); n <= impl.MaxWindow; n++ {
					if r, wanted := impl.Rolled(h, out, in, n), bigRolled(h, out, in, n); r != wanted {
						t.Fatalf("Rolled(%d, %d, %d, %d) is %d, not %d", h, out, in, n, r, wanted)
					}
				}
			}
		}
	}
	for h := range int64(rollModulus) {
		n := h%impl.MaxWindow + 1
		if r, wanted := impl.Rolled(h, h%256, h/256, n), bigRolled(h, h%256, h/256, n); r != wanted {
			t.Fatalf("Rolled(%d, %d, %d, %d) is %d, not %d", h, h%256, h/256, n, r, wanted)
		}
	}
}

func TestRolledOutOfRange(t *testing.T) {
	far := []int64{math.MinInt64, math.MinInt64 + 1, math.MinInt32, -256, -2, -1, math.MaxInt32, 1 << 32, 1<<32 + 1, math.MaxInt64 - 1, math.MaxInt64}
	right := [4]int64{11766, 'a', 'd', 3}
	least := [4]int64{0, 0, 0, 1}
	greatest := [4]int64{rollModulus - 1, 255, 255, impl.MaxWindow}
	for place, name := range []string{"h", "out", "in", "n"} {
		for _, others := range [][4]int64{right, least, greatest} {
			for _, bound := range []int64{least[place], greatest[place]} {
				args := others
				args[place] = bound
				if r := impl.Rolled(args[0], args[1], args[2], args[3]); r != bigRolled(args[0], args[1], args[2], args[3]) {
					t.Errorf("%s at its bound: Rolled of %d is %d", name, args, r)
				}
			}
			for _, past := range append(far, least[place]-1, greatest[place]+1, greatest[place]+2) {
				args := others
				args[place] = past
				if r := impl.Rolled(args[0], args[1], args[2], args[3]); r != -1 {
					t.Errorf("%s past its bounds: Rolled of %d is %d, not -1", name, args, r)
				}
			}
		}
	}
	for _, n := range far {
		if r := impl.Rolled(n, n, n, n); r != -1 {
			t.Errorf("all out of range: Rolled of four times %d is %d, not -1", n, r)
		}
	}
}

func TestRollsIsTheListTheDocumentTells(t *testing.T) {
	for _, c := range []struct {
		text   string
		n      int64
		wanted []int64
	}{
		{"abc", 3, []int64{11766}},
		{"abcd", 3, []int64{11766, 12552}},
		{"abcd", 2, []int64{25285, 25543, 25801}},
		{"\x00\x01\xff", 1, []int64{1, 2, 256}},
		{"\xfd\xf2\x00", 2, []int64{0, 62452}},
		{"aaa", 1, []int64{98, 98, 98}},
		{"é", 1, []int64{0xc4, 0xaa}},
	} {
		if list := impl.Rolls(c.text, c.n); !slices.Equal(list, c.wanted) {
			t.Errorf("Rolls(%q, %d) is %d, not %d", c.text, c.n, list, c.wanted)
		}
	}
}

// Promise 3.
func TestRolledFromWindowToWindowIsRollOfEach(t *testing.T) {
	for n := 1; n <= impl.MaxWindow; n++ {
		for _, size := range []int{0, 1, n - 1, n, n + 1, 2 * n, 2*n + 1, 100} {
			for _, s := range variety(size) {
				rollsAre(t, s, n)
			}
		}
	}
	texts("\x00\x80\xff", 6, func(s string) {
		for n := 1; n <= 7; n++ {
			rollsAre(t, s, n)
		}
	})
	var all []byte
	for b := range 256 {
		all = append(all, byte(b), byte(255-b), byte(b))
	}
	for n := 1; n <= impl.MaxWindow; n++ {
		rollsAre(t, string(all), n)
	}
}

func TestRollsOfLongTexts(t *testing.T) {
	for _, n := range []int{1, 2, impl.MaxWindow - 1, impl.MaxWindow} {
		rollsAre(t, mixed(impl.MaxBytes-1, 3), n)
		rollsAre(t, mixed(impl.MaxBytes, 4), n)
		rollsAre(t, strings.Repeat("\xff", impl.MaxBytes), n)
		for _, size := range []int{impl.MaxBytes + 1, impl.MaxBytes + 2, impl.MaxBytes + n, 3 * impl.MaxBytes} {
			if list := impl.Rolls(mixed(size, 4), int64(n)); len(list) != 0 {
				t.Errorf("Rolls of %d bytes by %d are %d", size, n, len(list))
			}
		}
	}
}

func TestRollsByNoWindow(t *testing.T) {
	for _, s := range []string{"", "a", "abc", mixed(impl.MaxWindow, 1), mixed(impl.MaxWindow+1, 1), mixed(500, 1), mixed(impl.MaxBytes, 1)} {
		for _, n := range []int64{math.MinInt64, math.MinInt32, -impl.MaxWindow, -2, -1, 0, impl.MaxWindow + 1, impl.MaxWindow + 2, 500, math.MaxInt32, 1 << 32, 1<<32 + 1, math.MaxInt64} {
			if list := impl.Rolls(s, n); len(list) != 0 {
				t.Errorf("Rolls of %d bytes by %d are %d", len(s), n, len(list))
			}
		}
	}
}

func TestRollsOfTooShortTexts(t *testing.T) {
	for n := int64(1); n <= impl.MaxWindow; n++ {
		for size := range n {
			if list := impl.Rolls(mixed(int(size), 5), n); len(list) != 0 {
				t.Errorf("Rolls of %d bytes by %d are %d", size, n, list)
			}
		}
	}
}

func TestRollsLookAtNothingBehindTheText(t *testing.T) {
	row := []byte("abcdefgh")
	for size := range len(row) {
		s := over(row[:size])
		for n := int64(1); n <= 8; n++ {
			if a, b := impl.Rolls(s, n), impl.Rolls(strings.Clone(s), n); !slices.Equal(a, b) {
				t.Errorf("Rolls(%q, %d) is %d and %d", s, n, a, b)
			}
		}
	}
}

func TestRollingLeavesItsTexts(t *testing.T) {
	for _, s := range []string{"", "a", "abc", "\x00\xff\x00", mixed(16, 2), mixed(17, 2), mixed(impl.MaxBytes+1, 2)} {
		row, picture := roomy([]byte(s), '\x2a')
		impl.Roll(over(row))
		stays(t, "Roll", row, picture)
		for _, n := range []int64{-1, 0, 1, 3, impl.MaxWindow, impl.MaxWindow + 1} {
			impl.Rolls(over(row), n)
			stays(t, "Rolls", row, picture)
		}
	}
}

func TestRollsAreNewMemory(t *testing.T) {
	for _, s := range []string{"abc", "abcd", mixed(50, 9), mixed(impl.MaxBytes, 9)} {
		for _, n := range []int64{1, 3} {
			one := impl.Rolls(s, n)
			picture := slices.Clone(one)
			other := impl.Rolls(s, n)
			scribble(other, -5)
			if !slices.Equal(one, picture) {
				t.Errorf("Rolls of %d bytes by %d share memory", len(s), n)
			}
			if again := impl.Rolls(s, n); !slices.Equal(again, picture) {
				t.Errorf("Rolls of %d bytes by %d are others once an answer is written over", len(s), n)
			}
		}
	}
}

func TestRollingKeepsNothingFromCallToCall(t *testing.T) {
	for range 3 {
		for _, s := range []string{"abcd", "\xff\x00\xff\x00", mixed(40, 6), "", mixed(30, 7)} {
			for _, n := range []int{4, 1, impl.MaxWindow, 2} {
				rollsAre(t, s, n)
			}
			impl.Rolls(s, 0)
			impl.Rolled(-1, 0, 0, 1)
			impl.Power(-1)
		}
	}
}
