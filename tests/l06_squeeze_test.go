package tests

import (
	"slices"
	"strconv"
	"strings"
	"testing"

	"loop.example/g00260/impl"
)

// What comes again has from leastAgain to mostAgain bytes, and begins from 1 to farthestBack bytes back.
const leastAgain = 4
const mostAgain = 60
const farthestBack = 200

// one is the byte 1 as it is told.
const one = "\x01\x00"

// pointed tells that this many bytes come again, which begin this far back.
func pointed(size, back int) string {
	return string([]byte{1, byte(size - 3), byte(back)})
}

// unlike is a text of this many bytes in which nothing comes again and no byte is 1.
func unlike(size int) string {
	s := strings.ReplaceAll(mixed(size, 6), "\x01", "\x02")
	seen := map[string]bool{}
	for at := 0; at+leastAgain <= size; at++ {
		if seen[s[at:at+leastAgain]] {
			panic("four bytes of unlike come again")
		}
		seen[s[at:at+leastAgain]] = true
	}
	return s
}

// halfOnes is a text of this many bytes, each second one a byte 1, in which nothing comes again near by.
func halfOnes(size int) string {
	row := make([]byte, size)
	for i := range row {
		row[i] = 1
		if i%2 == 1 {
			row[i] = byte(2 + i/2%254)
		}
	}
	return string(row)
}

// few is a text of this many bytes, of so many letters, so that much of it comes again.
func few(size, letters int, seed uint32) string {
	row := []byte(mixed(size, seed))
	for i, b := range row {
		row[i] = 'a' + byte(int(b)*letters/256)
	}
	return string(row)
}

// othered is a byte that is neither this one nor a byte 1.
func othered(b byte) string {
	return string([]byte{b ^ 0x80 | 0x02})
}

// squeezedOf tells Squeezed of a text that is none too long, as the document's words have it: at each place every way back is tried.
func squeezedOf(s string) string {
	var told []string
	for at := 0; at < len(s); {
		size, back := 0, 0
		for d := 1; d <= farthestBack && d <= at; d++ {
			n := 0
			for n < mostAgain && at+n < len(s) && s[at+n] == s[at+n-d] {
				n++
			}
			if n >= leastAgain && n > size {
				size, back = n, d
			}
		}
		switch {
		case size > 0:
			told = append(told, pointed(size, back))
			at += size
		case s[at] == 1:
			told = append(told, one)
			at++
		default:
			told = append(told, s[at:at+1])
			at++
		}
	}
	return strings.Join(told, "")
}

// loosedOf tells Loosed: from the first byte on, whatever length comes, and in the end whether that is too much.
func loosedOf(t string) (string, bool) {
	var text []byte
	for at := 0; at < len(t); {
		rest := t[at:]
		if rest[0] != 1 {
			text = append(text, rest[0])
			at++
			continue
		}
		if len(rest) > 1 && rest[1] == 0 {
			text = append(text, 1)
			at += 2
			continue
		}
		if len(rest) < 3 || rest[1] > 57 || rest[2] == 0 || rest[2] > 200 || int(rest[2]) > len(text) {
			return "", false
		}
		// What is back there, said as often as is asked for.
		part := slices.Clone(text[len(text)-int(rest[2]):])
		for i := range int(rest[1]) + 3 {
			text = append(text, part[i%len(part)])
		}
		at += 3
	}
	if len(text) > impl.MaxBytes {
		return "", false
	}
	return string(text), true
}

// squeezesTo fails where Squeezed of a text is not as told, Loosed of that is not the text, or Gain not the difference.
func squeezesTo(t *testing.T, s, wanted string) {
	t.Helper()
	told := impl.Squeezed(s)
	if told != wanted {
		t.Fatalf("Squeezed of %d bytes, %.80q, is %.80q, not %.80q", len(s), s, told, wanted)
	}
	if text, is := impl.Loosed(told); text != s || !is {
		t.Fatalf("Loosed of Squeezed of %d bytes, %.80q, is %.80q, %v", len(s), s, text, is)
	}
	if n := impl.Gain(s); n != int64(len(s))-int64(len(wanted)) {
		t.Fatalf("Gain of %d bytes, %.80q, is %d, and %d are told", len(s), s, n, len(wanted))
	}
}

// squeezesRight is squeezesTo where the document's words are followed step by step.
func squeezesRight(t *testing.T, s string) {
	t.Helper()
	squeezesTo(t, s, squeezedOf(s))
}

// loosesRight fails where Loosed is not as the document's words have it, step by step.
func loosesRight(t *testing.T, told string) {
	t.Helper()
	wanted, well := loosedOf(told)
	if text, is := impl.Loosed(told); text != wanted || is != well {
		t.Fatalf("Loosed of %d bytes, %.80q, is %.80q, %v, not %.80q, %v", len(told), told, text, is, wanted, well)
	}
}

// refusesToLoose fails where Loosed takes a text, or answers something beside false.
func refusesToLoose(t *testing.T, why, told string) {
	t.Helper()
	if text, is := impl.Loosed(told); text != "" || is {
		t.Errorf("%s: Loosed of %d bytes, %.80q, is %.80q, %v", why, len(told), told, text, is)
	}
}

// squeezeTexts are texts of all shapes, ordinary ones and edges.
func squeezeTexts() []string {
	u := unlike(600)
	list := []string{
		"", "a", "\x01", "\x00", "\xff", "aa", "aaaa", "aaaaa", "cellar", "abcabcabcabc!", "the quick brown fox jumps over the lazy dog, and the quick brown fox sleeps",
		u, u + u, u[:200] + u[:200], u[:201] + u[:201], u[:60] + u[:60], u[:61] + u[:61], allBytes(), allBytes() + allBytes(), halfOnes(300), halfOnes(301),
		"\x01\x00", "\x01\x01\x01", "\x01\x39\xc8", "\u00e9\u00e8\u00e9\u00e8\u00e9\u00e8\u00e9", "line\nline\nline\n", "\x00\x01\x00\x01\x00\x01\x00\x01",
		strings.Repeat("\x01", 500), strings.Repeat("\x00", 500), strings.Repeat("\xff", 500), strings.Repeat("ab\x01", 200), strings.Repeat("0123456789", 90),
	}
	for seed := range uint32(60) {
		list = append(list, mixed(int(seed*seed), seed), few(int(seed)*13, 2+int(seed)%5, seed))
	}
	return list
}

func TestSqueezedIsTheTextTheDocumentTells(t *testing.T) {
	for _, c := range []struct{ why, text, told string }{
		{"the document's kind of text", "abcabcabcabc!", "abc" + pointed(9, 3) + "!"},
		{"an empty text", "", ""},
		{"1 byte", "a", "a"},
		{"2 bytes", "aa", "aa"},
		{"3 bytes", "aaa", "aaa"},
		{"4 bytes", "aaaa", "aaaa"},
		{"5 bytes, of which 4 come again", "aaaaa", "a" + pointed(4, 1)},
		{"5 bytes, of which none does", "abcde", "abcde"},
		{"3 bytes that come again", "abcXabcY", "abcXabcY"},
		{"3 bytes that come again in the end", "abcXabc", "abcXabc"},
		{"4 bytes that come again", "abcdXabcdY", "abcdX" + pointed(4, 5) + "Y"},
		{"4 bytes that come again in the end", "abcdXabcd", "abcdX" + pointed(4, 5)},
		{"4 bytes that come again at once", "abcdabcd", "abcd" + pointed(4, 4)},
		{"5 bytes", "abcdeXabcde", "abcdeX" + pointed(5, 6)},
		{"two bytes many times", "ababababab", "ab" + pointed(8, 2)},
		{"it ends within where it goes on", "abcabca", "abc" + pointed(4, 3)},
		{"it comes again three times", "abcdXabcdYabcdZ", "abcdX" + pointed(4, 5) + "Y" + pointed(4, 5) + "Z"},
		{"of alike long ones the nearest", "abcdeXabcdfYabcdg", "abcdeX" + pointed(4, 6) + "fY" + pointed(4, 6) + "g"},
		{"a farther one that is longer", "abcdeXabcdfYabcde", "abcdeX" + pointed(4, 6) + "fY" + pointed(5, 12)},
		{"the nearer one is longer", "abcdeXabcdfYabcdf", "abcdeX" + pointed(4, 6) + "fY" + pointed(5, 6)},
		{"the longest is between two", "abcdVabcdeWabcdXabcde", "abcdV" + pointed(4, 5) + "eW" + pointed(4, 6) + "X" + pointed(5, 11)},
		{"two that are longest: the nearer one of them", "abcdeUabcdeVabcdWabcde", "abcdeU" + pointed(5, 6) + "V" + pointed(4, 6) + "W" + pointed(5, 11)},
		{"it begins within what came again", "abcdefghabcdefghXcdefg!", "abcdefgh" + pointed(8, 8) + "X" + pointed(5, 7) + "!"},
		{"it begins at the last byte of what came again", "abcdabcdXYdXYZ!", "abcd" + pointed(4, 4) + "XYdXYZ!"},
		{"it begins at the last byte of what came again, and is 4 long", "abcdabcdXYZ.dXYZ!", "abcd" + pointed(4, 4) + "XYZ." + pointed(4, 5) + "!"},
		{"it begins ahead of what came again and goes into it", "abcd.Yabcd.YabZ.YabZ", "abcd.Y" + pointed(8, 6) + "Z" + pointed(5, 5)},
		{"it is taken where it begins, though a longer one begins one byte on", "bcdefgh<abcd>abcdefgh", "bcdefgh<abcd>" + pointed(4, 5) + pointed(4, 14)},
		{"4 bytes that are noughts, and a short end", "\x00\x00\x00\x00X\x00\x00\x00", "\x00\x00\x00\x00X\x00\x00\x00"},
		{"5 noughts", "\x00\x00\x00\x00\x00", "\x00" + pointed(4, 1)},
		{"the byte 0", "\x00", "\x00"},
		{"the byte 255", "\xff", "\xff"},
		{"the bytes 0 and 255", "\x00\xff\x00\xff\x00\xff", "\x00\xff" + pointed(4, 2)},
		{"bytes 255", "\xff\xff\xff\xff\xff\xff", "\xff" + pointed(5, 1)},
		{"a byte 1", "\x01", one},
		{"2 bytes 1", "\x01\x01", one + one},
		{"4 bytes 1", "\x01\x01\x01\x01", one + one + one + one},
		{"5 bytes 1", "\x01\x01\x01\x01\x01", one + pointed(4, 1)},
		{"62 bytes 1", strings.Repeat("\x01", 62), one + pointed(60, 1) + one},
		{"a byte 1 and a byte 0", "\x01\x00", one + "\x00"},
		{"a byte 1 amid what comes again", "ab\x01cdXab\x01cd", "ab" + one + "cdX" + pointed(5, 6)},
		{"a byte 1 ahead of what comes again", "\x01bcdX\x01bcd", one + "bcdX" + pointed(4, 5)},
		{"a byte 1 behind what comes again", "abc\x01Xabc\x01", "abc" + one + "X" + pointed(4, 5)},
		{"bytes 1 amid what does not", "a\x01b\x01c", "a" + one + "b" + one + "c"},
		{"how far back counts bytes of the text", "abcd\x01\x01\x01Xabcd", "abcd" + one + one + one + "X" + pointed(4, 8)},
		{"a text that looks as if told", "a\x01\x01\x01", "a" + one + one + one},
		{"another one", "\x01\x39\xc8", one + "\x39\xc8"},
		{"runes are their bytes", "\u00e9\u00e9\u00e9", "\u00e9" + pointed(4, 2)},
		{"what comes again begins within a rune", "\u00e9abc\u00e8\xa9abc", "\u00e9abc\u00e8" + pointed(4, 6)},
	} {
		if told := impl.Squeezed(c.text); told != c.told {
			t.Errorf("%s: Squeezed(%q) is %q, not %q", c.why, c.text, told, c.told)
		}
		if text, is := impl.Loosed(c.told); text != c.text || !is {
			t.Errorf("%s: Loosed(%q) is %q, %v, not %q", c.why, c.told, text, is, c.text)
		}
		if n := impl.Gain(c.text); n != int64(len(c.text)-len(c.told)) {
			t.Errorf("%s: Gain(%q) is %d", c.why, c.text, n)
		}
	}
}

// Each count of bytes that come again, to past twice the most that are told at once.
func TestSqueezedOfEachCountThatComesAgain(t *testing.T) {
	u := unlike(farthestBack)
	for size := 1; size <= 130; size++ {
		for _, end := range []string{"", othered(u[size])} {
			wanted, rest := u, u[:size]
			for len(rest) >= leastAgain {
				n := min(len(rest), mostAgain)
				wanted += pointed(n, farthestBack)
				rest = rest[n:]
			}
			squeezesTo(t, u+u[:size]+end, wanted+rest+end)
		}
	}
}

// 4, 60 and 61 bytes that come again, each way back that there is.
func TestSqueezedOfEachWayBack(t *testing.T) {
	u := unlike(400)
	for _, size := range []int{leastAgain - 1, leastAgain, leastAgain + 1, mostAgain - 1, mostAgain, mostAgain + 1} {
		for back := 1; back <= 300; back++ {
			s := strings.Repeat(u[:back], 100)[:back+size]
			s += othered(s[size])
			wanted := s
			if back <= farthestBack && size >= leastAgain {
				wanted = s[:back] + pointed(min(size, mostAgain), back) + s[back+min(size, mostAgain):]
			}
			squeezesTo(t, s, wanted)
		}
	}
}

// What is 201 bytes back is too far, even where it is longer; what is 200 back is not.
func TestSqueezedOfTheFarthestAndOnePast(t *testing.T) {
	u := unlike(500)
	part, half := u[:20], u[:10]
	for _, c := range []struct {
		why    string
		gap    int
		wanted string
	}{
		{"200 back", 180, pointed(20, 200)},
		{"201 back", 181, part},
		{"202 back", 182, part},
		{"256 back", 236, part},
		{"257 back", 237, part},
	} {
		if told := impl.Squeezed(part + u[20:20+c.gap] + part); told != part+u[20:20+c.gap]+c.wanted {
			t.Errorf("%s: Squeezed ends with %q", c.why, told[20+c.gap:])
		}
		squeezesRight(t, part+u[20:20+c.gap]+part)
	}
	// The nearer one has 10 bytes only, the farther one 20: which of them is told hangs on whether the farther one is near enough.
	for _, gap := range []int{100, 169, 170, 171, 200} {
		s := part + u[20:20+gap-40] + half + u[100+gap:140+gap-10] + part
		back := 20 + gap - 40 + 10 + 30
		want := pointed(20, back)
		if back > farthestBack {
			want = pointed(10, 40) + part[10:]
		}
		if told := impl.Squeezed(s); !strings.HasSuffix(told, want) {
			t.Errorf("%d back: Squeezed ends with %q, not %q", back, told[len(told)-len(want):], want)
		}
		squeezesRight(t, s)
	}
}

func TestSqueezedOfOneByteManyTimes(t *testing.T) {
	for size := range 400 {
		for _, b := range []byte{0, 'a', 255} {
			s := strings.Repeat(string([]byte{b}), size)
			wanted := s[:min(size, 1)]
			rest := s[min(size, 1):]
			for len(rest) >= leastAgain {
				n := min(len(rest), mostAgain)
				wanted += pointed(n, 1)
				rest = rest[n:]
			}
			squeezesTo(t, s, wanted+rest)
		}
		squeezesRight(t, strings.Repeat("\x01", size))
		squeezesRight(t, strings.Repeat("ab", size))
		squeezesRight(t, "ab"+strings.Repeat("\x01", size)+"ab\x01\x01\x01")
	}
}

// Of two places that both have more than can be told at once, the nearest is told.
func TestSqueezedOfPlacesThatHaveMoreThanIsTold(t *testing.T) {
	u := unlike(200)
	for size := leastAgain; size <= 70; size++ {
		s := u[:size] + "<" + u[:size] + ">" + u[:size]
		n := min(size, mostAgain)
		told := impl.Squeezed(s)
		head := u[:size] + "<"
		if !strings.HasPrefix(told, head+pointed(n, size+1)) || strings.Contains(told, pointed(n, 2*size+2)) {
			t.Errorf("%d bytes three times: Squeezed is %q", size, told)
		}
		squeezesRight(t, s)
	}
}

func TestSqueezedOfEveryShortText(t *testing.T) {
	texts("ab", 13, func(s string) { squeezesRight(t, s) })
	texts("ab\x01", 8, func(s string) { squeezesRight(t, s) })
	texts("\x00\x01\xff", 7, func(s string) { squeezesRight(t, s) })
	texts("\x01\x02\x04\x05", 5, func(s string) { squeezesRight(t, s) })
}

// Promise 6.
func TestLoosedOfSqueezedIsTheText(t *testing.T) {
	for _, s := range squeezeTexts() {
		squeezesRight(t, s)
	}
	for seed := range uint32(300) {
		squeezesRight(t, few(1+int(seed)*3, 1+int(seed)%9, seed))
		// Pieces of one text behind one another, of all lengths and from all places.
		u := unlike(250)
		s := ""
		for i, b := range []byte(mixed(24, seed)) {
			from := int(b) * (i + 1) % 180
			s += u[from : from+1+int(b)%70]
		}
		squeezesRight(t, s)
	}
	for b := range 256 {
		s := string([]byte{byte(b)})
		squeezesRight(t, s)
		squeezesRight(t, s+s)
		squeezesRight(t, "a"+s+"bcda"+s+"bcd")
		squeezesRight(t, strings.Repeat(s, 70)+"x"+strings.Repeat(s, 5))
	}
}

func TestSqueezedAtMaxBytes(t *testing.T) {
	for _, s := range []string{strings.Repeat("a", impl.MaxBytes), strings.Repeat("\x01", impl.MaxBytes), mixed(impl.MaxBytes, 1), few(impl.MaxBytes, 2, 1), few(impl.MaxBytes, 4, 2), halfOnes(impl.MaxBytes), strings.Repeat(unlike(199), 101)[:impl.MaxBytes]} {
		squeezesRight(t, s)
		squeezesRight(t, s[:impl.MaxBytes-1])
		for _, more := range []string{"a", "\x01", s[impl.MaxBytes-1:], s} {
			if told := impl.Squeezed(s + more); told != "" {
				t.Errorf("Squeezed of %d bytes is %.40q", len(s+more), told)
			}
			// Squeezed has no byte, so all of them are less.
			if n := impl.Gain(s + more); n != int64(len(s+more)) {
				t.Errorf("Gain of %d bytes is %d", len(s+more), n)
			}
		}
	}
}

func TestSqueezedThatHasMoreBytes(t *testing.T) {
	for size := 1; size <= 4; size++ {
		if n := impl.Gain(strings.Repeat("\x01", size)); n != int64(-size) {
			t.Errorf("Gain of %d bytes 1 is %d", size, n)
		}
	}
	for _, size := range []int{2, 3, 50, 300, impl.MaxBytes - 1, impl.MaxBytes} {
		s := halfOnes(size)
		told := impl.Squeezed(s)
		if len(told) != size+(size+1)/2 || impl.Gain(s) != -int64((size+1)/2) {
			t.Errorf("%d bytes, each second one a 1, come to %d, Gain is %d", size, len(told), impl.Gain(s))
		}
		squeezesTo(t, s, strings.ReplaceAll(s, "\x01", one))
	}
}

func TestGainIsHowManyBytesLess(t *testing.T) {
	for _, c := range []struct {
		text string
		gain int64
	}{
		{"", 0}, {"a", 0}, {"aaaa", 0}, {"aaaaa", 1}, {"aaaaaa", 2}, {"abcabcabcabc!", 6}, {"abcdXabcd", 1}, {"\x01", -1}, {"a\x01b\x01c", -2}, {"\x01\x01\x01\x01\x01", 0}, {"ab\x01cdXab\x01cd", 1},
		{strings.Repeat("a", 61), 57}, {strings.Repeat("a", 62), 57}, {strings.Repeat("a", impl.MaxBytes), 57*333 + 16}, {unlike(300), 0},
	} {
		if n := impl.Gain(c.text); n != c.gain {
			t.Errorf("Gain of %d bytes, %.40q, is %d, not %d", len(c.text), c.text, n, c.gain)
		}
	}
	for _, s := range squeezeTexts() {
		told := impl.Squeezed(s)
		if n := impl.Gain(s); n != int64(len(s))-int64(len(told)) || n < -int64(len(s)) || n > int64(len(s)) {
			t.Errorf("Gain of %d bytes, %.40q, is %d, Squeezed has %d", len(s), s, n, len(told))
		}
	}
}

func TestLoosedIsTheTextTheDocumentTells(t *testing.T) {
	u := unlike(300)
	for _, c := range []struct{ why, told, text string }{
		{"some", "abc\x01\x06\x03!", "abcabcabcabc!"},
		{"an empty text", "", ""},
		{"bytes themselves", "abc", "abc"},
		{"the bytes 0 and 255", "\x00\xff", "\x00\xff"},
		{"a byte 0 first", "\x00\x01\x00", "\x00\x01"},
		{"a byte 1", one, "\x01"},
		{"bytes 1", one + one, "\x01\x01"},
		{"a byte 1, and a byte 0 behind", one + "\x00", "\x01\x00"},
		{"a byte 1, and what would be n and d", one + "\x39\xc8", "\x01\x39\xc8"},
		{"n is 1", "a" + "\x01\x01\x01", "aaaaa"},
		{"n is 57", "a" + "\x01\x39\x01", strings.Repeat("a", 61)},
		{"n is 57, d is 7", "abcdefg" + "\x01\x39\x07", strings.Repeat("abcdefg", 10)[:67]},
		{"d is 1", "ab" + "\x01\x01\x01", "abbbbb"},
		{"d is 200, as many as there are", u[:200] + pointed(4, 200), u[:200] + u[:4]},
		{"d is 200, of more", u[:300] + pointed(60, 200), u[:300] + u[100:160]},
		{"d is 199", u[:200] + pointed(4, 199), u[:200] + u[1:5]},
		{"d is as many as there are", "abc" + pointed(4, 3), "abcabca"},
		{"d counts a byte 1 once", one + pointed(4, 1), "\x01\x01\x01\x01\x01"},
		{"d counts what came again", "a" + pointed(4, 1) + "b" + pointed(5, 6), "aaaaab" + "aaaaa"},
		{"what came again comes again", "abcd" + pointed(4, 4) + pointed(8, 8), "abcdabcdabcdabcd"},
		{"n and d are 1", "\x00\x01\x01\x01\x01\x01\x01", "\x00\x00\x00\x00\x00\x00\x00\x00\x00"},
		{"d is 0 as n is 0", "\x01\x00\x01\x00", "\x01\x01"},
		{"not as short as it might be", "aaaaaaaaaa", "aaaaaaaaaa"},
		{"not the nearest", "aa" + pointed(4, 2), "aaaaaa"},
		{"not the longest", "a" + pointed(4, 1) + pointed(5, 1), "aaaaaaaaaa"},
	} {
		if text, is := impl.Loosed(c.told); text != c.text || !is {
			t.Errorf("%s: Loosed(%q) is %q, %v, not %q", c.why, c.told, text, is, c.text)
		}
	}
}

func TestLoosedOfWhatIsNoTelling(t *testing.T) {
	u := unlike(300)
	for _, head := range []string{"", "a", "abcd", one, "abcd" + pointed(4, 4), u, strings.Repeat("\x00", 256)} {
		refusesToLoose(t, "a byte 1 at the end", head+"\x01")
		for n := 1; n < 256; n++ {
			refusesToLoose(t, "a byte 1 and one more byte at the end", head+string([]byte{1, byte(n)}))
			refusesToLoose(t, "d is 0", head+string([]byte{1, byte(n), 0}))
			refusesToLoose(t, "d is 0, and bytes behind", head+string([]byte{1, byte(n), 0, 'x', 'y'}))
		}
		for n := 58; n < 256; n++ {
			refusesToLoose(t, "n is past 57", head+string([]byte{1, byte(n), 1}))
			refusesToLoose(t, "n is past 57, and bytes behind", head+string([]byte{1, byte(n), 1})+u)
		}
		for d := 201; d < 256; d++ {
			refusesToLoose(t, "d is past 200", head+string([]byte{1, 1, byte(d)}))
			refusesToLoose(t, "d is past 200, and bytes behind", head+string([]byte{1, 57, byte(d)})+u)
		}
	}
	for _, c := range []struct{ why, told string }{
		{"nothing is there yet", pointed(4, 1)},
		{"one more than there are", "a" + pointed(4, 2)},
		{"a byte 1 is one byte", one + pointed(4, 2)},
		{"of what came again, one more than there are", "a" + pointed(4, 1) + pointed(4, 6)},
		{"199 are there", u[:199] + pointed(4, 200)},
		{"it counts what is there by then, not what comes", "abc" + pointed(60, 4)},
		{"the second one is wrong", "a" + pointed(4, 1) + "b" + pointed(4, 7)},
		{"wrong at first, and right behind", pointed(4, 1) + "a" + pointed(4, 1)},
	} {
		refusesToLoose(t, c.why, c.told)
	}
}

// Each n and each d there can be, with so many bytes ahead of them.
func TestLoosedOfEachPointer(t *testing.T) {
	u := unlike(300)
	for _, by := range []int{0, 1, 2, 3, 59, 60, 61, 199, 200, 201, 255, 256, 300} {
		for n := range 256 {
			for d := range 256 {
				told := u[:by] + string([]byte{1, byte(n), byte(d)})
				right := n == 0 && d != 1 || n >= 1 && n <= 57 && d >= 1 && d <= 200 && d <= by
				if text, is := impl.Loosed(told); is != right || !is && text != "" {
					t.Fatalf("Loosed of %d bytes, a 1, %d and %d is %q, %v", by, n, d, text, is)
				}
				if n < 3 || n > 55 || d%9 == 0 {
					loosesRight(t, told)
				}
			}
		}
	}
}

// d just as many as there are by then, and one more.
func TestLoosedOfAsManyAsThereAre(t *testing.T) {
	u := unlike(farthestBack + 1)
	for by := 1; by <= farthestBack; by++ {
		text, is := impl.Loosed(u[:by] + pointed(mostAgain, by))
		if wanted := u[:by] + strings.Repeat(u[:by], mostAgain)[:mostAgain]; text != wanted || !is {
			t.Fatalf("Loosed of %d bytes and as many back is %q, %v", by, text, is)
		}
		refusesToLoose(t, strconv.Itoa(by)+" and one more back", u[:by]+string([]byte{1, 57, byte(by + 1)}))
		refusesToLoose(t, strconv.Itoa(by)+" bytes 1 and one more back", strings.Repeat(one, by)+string([]byte{1, 1, byte(by + 1)}))
	}
}

func TestLoosedOfEveryShortText(t *testing.T) {
	texts("\x00\x01\x02\x03", 7, func(told string) { loosesRight(t, told) })
	texts("a\x01\x05\x39\x3a", 5, func(told string) { loosesRight(t, told) })
	texts("\x01\xc8\xc9\xff", 5, func(told string) { loosesRight(t, told) })
}

func TestLoosedOfWhatIsCutOrChanged(t *testing.T) {
	for _, s := range []string{few(150, 2, 3), few(150, 3, 4), strings.Repeat("ab\x01", 40) + "abab", halfOnes(40) + halfOnes(40)} {
		told := impl.Squeezed(s)
		for at := range len(told) {
			loosesRight(t, told[:at])
			loosesRight(t, told[at:])
			for _, b := range []string{"\x00", "\x01", "\x39", "\x3a", "\xc8", "\xc9", "\xff"} {
				loosesRight(t, told[:at]+b+told[at+1:])
			}
		}
	}
}

func TestLoosedAtMaxBytes(t *testing.T) {
	// 1 and 333 times 60 bytes: 19 less than there may be.
	almost := "a" + strings.Repeat(pointed(mostAgain, 1), 333)
	bytes := strings.Repeat("a", impl.MaxBytes)
	ones := strings.Repeat("\x01", impl.MaxBytes)
	for _, c := range []struct{ why, told, text string }{
		{"bytes themselves", bytes, bytes},
		{"bytes 1", strings.Repeat(one, impl.MaxBytes), ones},
		{"bytes themselves, and a byte 1", bytes[1:] + one, bytes[1:] + "\x01"},
		{"what comes again, and bytes", almost + bytes[:19], bytes},
		{"what comes again alone", almost + pointed(19, 1), bytes},
		{"4 that come again", bytes[4:] + pointed(4, 200), bytes},
		{"60 that come again", bytes[60:] + pointed(60, 1), bytes},
	} {
		text, is := impl.Loosed(c.told)
		if text != c.text || !is {
			t.Errorf("MaxBytes of %s: Loosed is %d bytes, %.40q, %v", c.why, len(text), text, is)
		}
		refusesToLoose(t, "MaxBytes of "+c.why+", and a byte", c.told+"b")
		refusesToLoose(t, "a byte, and MaxBytes of "+c.why, "a"+c.told)
		refusesToLoose(t, "MaxBytes of "+c.why+", and a byte 1", c.told+one)
		refusesToLoose(t, "MaxBytes of "+c.why+", and 4 that come again", c.told+pointed(4, 1))
		refusesToLoose(t, "MaxBytes of "+c.why+", and what is nothing", c.told+"\x01")
	}
	for n := leastAgain; n <= mostAgain; n++ {
		head := bytes[:impl.MaxBytes-n]
		if text, is := impl.Loosed(head + pointed(n, 9)); text != bytes || !is {
			t.Errorf("Loosed of what %d bytes make MaxBytes is %d bytes, %v", n, len(text), is)
		}
		refusesToLoose(t, "one more, by "+strconv.Itoa(n), head+"a"+pointed(n, 9))
	}
	refusesToLoose(t, "far more", strings.Repeat(almost, 1000))
	refusesToLoose(t, "far more bytes", strings.Repeat("x", 1000000))
}

func TestSqueezeLeavesItsArguments(t *testing.T) {
	for _, s := range append(squeezeTexts(), "a\x01", "a\x01\x01", "a\x01\x3a\x01", "a\x01\x01\x02", strings.Repeat("a", impl.MaxBytes+1)) {
		row, picture := roomy([]byte(s), '\x2a')
		impl.Squeezed(over(row))
		impl.Gain(over(row))
		impl.Loosed(over(row))
		stays(t, "the text", row, picture)
		told, pictureOfTold := roomy([]byte(impl.Squeezed(s)), '\x2a')
		impl.Loosed(over(told))
		stays(t, "what is told", told, pictureOfTold)
	}
}

func TestSqueezeDoesNotLookIntoTheRoomBehind(t *testing.T) {
	row := []byte("abcdefgh.abcdefgh.")
	for size := range len(row) {
		squeezesRight(t, over(row)[:size])
	}
	if told := impl.Squeezed(over(row)[:12]); told != "abcdefgh.abc" {
		t.Errorf("Squeezed with room behind is %q", told)
	}
	told := []byte("a\x01\x01\x01\x01\x00")
	for size, is := range []bool{true, true, false, false, true, false, true} {
		if _, ok := impl.Loosed(over(told)[:size]); ok != is {
			t.Errorf("Loosed of the first %d bytes, with room behind, is %v", size, ok)
		}
	}
}

func TestSqueezedAndLoosedAreNewMemory(t *testing.T) {
	for _, given := range squeezeTexts() {
		s := strings.Clone(given)
		told, again := impl.Squeezed(s), impl.Squeezed(s)
		text, _ := impl.Loosed(told)
		twice, _ := impl.Loosed(told)
		apart(t, "two times Squeezed", told, again)
		apart(t, "Squeezed and its text", told, s)
		apart(t, "two times Loosed", text, twice)
		apart(t, "Loosed and what is told", text, told)
		apart(t, "Loosed and the text", text, s)
		// A text that tells itself: nothing of it may be handed on.
		itself := strings.ReplaceAll(s, "\x01", "\x02")
		same, is := impl.Loosed(itself)
		if same != itself || !is {
			t.Fatalf("Loosed(%.40q) is %.40q, %v", itself, same, is)
		}
		apart(t, "Loosed and its argument", same, itself)
	}
}

// A text of one byte is made by its conversion, which lies where all such texts do.
func TestSqueezesOfOneByteAreNewMemory(t *testing.T) {
	for b := range 256 {
		s := string([]byte{byte(b)})
		told := impl.Squeezed(s)
		text, _ := impl.Loosed(told)
		apart(t, "Squeezed", told, s)
		apart(t, "Loosed", text, s)
		apart(t, "Loosed and Squeezed", text, told)
	}
}

func TestSqueezeKeepsNothingFromCallToCall(t *testing.T) {
	list := squeezeTexts()
	for range 3 {
		for i, s := range list {
			squeezesRight(t, s)
			// What another text has said is not said in this one.
			other := list[len(list)-1-i]
			impl.Squeezed(other)
			impl.Loosed(other + "\x01")
			squeezesRight(t, s)
		}
		slices.Reverse(list)
	}
	impl.Loosed("abcd")
	refusesToLoose(t, "another call's bytes are not there", pointed(4, 4))
	impl.Squeezed("abcdefgh")
	if told := impl.Squeezed("abcdefgh"); told != "abcdefgh" {
		t.Errorf("Squeezed of what another call was given is %q", told)
	}
}
