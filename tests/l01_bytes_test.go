package tests

import (
	"bytes"
	"math"
	"slices"
	"strings"
	"testing"

	"loop.example/g00260/impl"
)

// edgeNumbers are the numbers about which Number's answer changes its shape, each with the bytes that the document asks for.
var edgeNumbers = []struct {
	n   int64
	row string
}{
	{0, "\x00"},
	{1, "\x01"},
	{127, "\x7f"},
	{128, "\x80\x01"},
	{129, "\x81\x01"},
	{255, "\xff\x01"},
	{256, "\x80\x02"},
	{300, "\xac\x02"},
	{16383, "\xff\x7f"},
	{16384, "\x80\x80\x01"},
	{1<<21 - 1, "\xff\xff\x7f"},
	{1 << 21, "\x80\x80\x80\x01"},
	{1<<28 - 1, "\xff\xff\xff\x7f"},
	{1 << 28, "\x80\x80\x80\x80\x01"},
	{1<<31 - 1, "\xff\xff\xff\xff\x07"},
	{1<<35 - 1, "\xff\xff\xff\xff\x7f"},
	{1 << 35, "\x80\x80\x80\x80\x80\x01"},
	{impl.MaxNumber - 1, "\xff\xff\xff\xff\xff\x1f"},
	{impl.MaxNumber, "\x80\x80\x80\x80\x80\x20"},
}

// outNumbers are numbers that Number refuses.
var outNumbers = []int64{-1, -2, -128, math.MinInt64, impl.MaxNumber + 1, 1 << 41, 1 << 42, 1 << 62, math.MaxInt64}

// noNumbers are data that begin with no number that Number makes.
var noNumbers = []struct{ why, row string }{
	{"no byte", ""},
	{"cut short", "\x80"},
	{"cut short", "\xff\xff"},
	{"cut short", "\x80\x80\x80\x80\x80"},
	{"0 in two bytes", "\x80\x00"},
	{"1 in two bytes", "\x81\x00"},
	{"127 in two bytes", "\xff\x00"},
	{"128 in three bytes", "\x80\x81\x00"},
	{"300 in three bytes", "\xac\x82\x00"},
	{"0 in six bytes", "\x80\x80\x80\x80\x80\x00"},
	{"0 in seven bytes", "\x80\x80\x80\x80\x80\x80\x00"},
	{"MaxNumber in seven bytes", "\x80\x80\x80\x80\x80\xa0\x00"},
	{"MaxNumber and 1", "\x81\x80\x80\x80\x80\x20"},
	{"MaxNumber and 128", "\x80\x81\x80\x80\x80\x20"},
	{"2^40 and 2^35", "\x80\x80\x80\x80\x80\x21"},
	{"2^42 less 1", "\xff\xff\xff\xff\xff\x7f"},
	{"2^42", "\x80\x80\x80\x80\x80\x80\x01"},
	{"2^63", "\x80\x80\x80\x80\x80\x80\x80\x80\x80\x01"},
	{"2^64, that wraps round to 0", "\x80\x80\x80\x80\x80\x80\x80\x80\x80\x02"},
	{"2^64 and 5", "\x85\x80\x80\x80\x80\x80\x80\x80\x80\x02"},
	{"no end", strings.Repeat("\x80", 3000)},
	{"no end", strings.Repeat("\xff", 3000)},
	{"an end too far off", strings.Repeat("\x80", 3000) + "\x01"},
}

func TestNumberIsTheBytesTheDocumentTells(t *testing.T) {
	for _, c := range edgeNumbers {
		if row := impl.Number(c.n); string(row) != c.row {
			t.Errorf("Number(%d) is %x, not %x", c.n, row, c.row)
		}
	}
}

func TestNumberOutOfRangeIsNothing(t *testing.T) {
	for _, n := range outNumbers {
		if row := impl.Number(n); len(row) != 0 {
			t.Errorf("Number(%d) is %x, not nothing", n, row)
		}
	}
}

// reads fails where ReadNumber of Number of n, with something behind it or nothing, isn't n.
func reads(t *testing.T, n int64) {
	t.Helper()
	row := impl.Number(n)
	for _, behind := range []string{"", "\x00", "\x01", "\x80", "\xff\xff\xff\xff\xff\xff\xff\xff"} {
		got, size := impl.ReadNumber(append(slices.Clone(row), behind...))
		if got != n || size != int64(len(row)) || size == 0 {
			t.Fatalf("ReadNumber(%x and %x) is %d, %d; it is Number(%d)", row, behind, got, size, n)
		}
	}
}

func TestReadNumberOfNumberIsTheNumber(t *testing.T) {
	for n := range int64(70000) {
		reads(t, n)
	}
	for bit := range 41 {
		for n := int64(1)<<bit - 3; n <= int64(1)<<bit+3; n++ {
			if n >= 0 && n <= impl.MaxNumber {
				reads(t, n)
			}
		}
	}
	for n := int64(1); n < impl.MaxNumber; n = n*3 + 7 {
		reads(t, n)
	}
}

func TestReadNumberOfAnythingElseIsNoughtAndNought(t *testing.T) {
	for _, c := range noNumbers {
		if n, size := impl.ReadNumber([]byte(c.row)); n != 0 || size != 0 {
			t.Errorf("%s: ReadNumber(%.20x) is %d, %d", c.why, c.row, n, size)
		}
	}
	if n, size := impl.ReadNumber(nil); n != 0 || size != 0 {
		t.Errorf("ReadNumber(nil) is %d, %d", n, size)
	}
}

func TestReadNumberOfEveryShortText(t *testing.T) {
	known := map[string]int64{}
	for n := range int64(1 << 14) {
		known[string(impl.Number(n))] = n
	}
	see := func(data []byte) {
		n, size := impl.ReadNumber(data)
		wanted, wantedSize := int64(0), int64(0)
		for k := 1; k <= len(data); k++ {
			if m, is := known[string(data[:k])]; is {
				wanted, wantedSize = m, int64(k)
				break
			}
		}
		if n != wanted || size != wantedSize {
			t.Fatalf("ReadNumber(%x) is %d, %d, not %d, %d", data, n, size, wanted, wantedSize)
		}
	}
	see([]byte{})
	for a := range 256 {
		see([]byte{byte(a)})
		for b := range 256 {
			see([]byte{byte(a), byte(b)})
		}
	}
}

// numberLists are lists of which Numbers makes a text.
func numberLists() [][]int64 {
	lists := [][]int64{nil, {}, {0}, {0, 0}, {5, 300}, {impl.MaxNumber}, {3, 1, 2, 1, 3}}
	var edges []int64
	for _, c := range edgeNumbers {
		lists = append(lists, []int64{c.n}, []int64{c.n, c.n})
		edges = append(edges, c.n)
	}
	lists = append(lists, edges)
	for _, size := range []int{2, 127, 128, 129, impl.MaxList - 1, impl.MaxList} {
		list := make([]int64, size)
		for i := range list {
			list[i] = int64(i) * int64(i) * 7919
		}
		lists = append(lists, make([]int64, size), slices.Repeat([]int64{impl.MaxNumber}, size), list)
	}
	return lists
}

func TestNumbersIsTheRowTheDocumentTells(t *testing.T) {
	for _, c := range []struct {
		list []int64
		row  string
	}{
		{nil, "\x00"},
		{[]int64{}, "\x00"},
		{[]int64{0}, "\x01\x00"},
		{[]int64{5, 300}, "\x02\x05\xac\x02"},
		{[]int64{127, 128, 0, impl.MaxNumber}, "\x04\x7f\x80\x01\x00\x80\x80\x80\x80\x80\x20"},
		{make([]int64, impl.MaxList), "\xc8\x01" + strings.Repeat("\x00", impl.MaxList)},
	} {
		if row := impl.Numbers(c.list); row != c.row {
			t.Errorf("Numbers(%v) is %x, not %x", c.list, row, c.row)
		}
	}
}

func TestReadNumbersOfNumbersIsTheList(t *testing.T) {
	for _, list := range numberLists() {
		row := impl.Numbers(list)
		if row == "" {
			t.Fatalf("Numbers(%v) is empty", list)
		}
		if got, is := impl.ReadNumbers(row); !is || !slices.Equal(got, list) {
			t.Fatalf("ReadNumbers(%x) is %v, %v, not %v", row, got, is, list)
		}
	}
}

func TestNumbersOfTooManyOrOneOutOfRangeIsEmpty(t *testing.T) {
	for _, size := range []int{impl.MaxList + 1, impl.MaxList + 2, 5000} {
		if row := impl.Numbers(make([]int64, size)); row != "" {
			t.Errorf("Numbers of %d numbers is %.20x, not empty", size, row)
		}
	}
	for _, n := range outNumbers {
		for _, list := range [][]int64{{n}, {n, 1, 2}, {1, n, 2}, {1, 2, n}, {n, n}} {
			if row := impl.Numbers(list); row != "" {
				t.Errorf("Numbers(%v) is %x, not empty", list, row)
			}
		}
	}
}

// noNumberList fails where ReadNumbers takes a text of which it is known that Numbers doesn't make it.
func noNumberList(t *testing.T, why, row string) {
	t.Helper()
	if list, is := impl.ReadNumbers(row); is || len(list) != 0 {
		t.Errorf("%s: ReadNumbers(%.20x) is %v, %v", why, row, list, is)
	}
}

func TestReadNumbersOfAnythingElseIsNothing(t *testing.T) {
	for _, list := range numberLists() {
		row := impl.Numbers(list)
		for end := range len(row) {
			noNumberList(t, "cut short", row[:end])
		}
		for _, behind := range []string{"\x00", "\x01", "\x80", "\xff\xff", row} {
			noNumberList(t, "more behind", row+behind)
		}
	}
	for _, c := range noNumbers {
		noNumberList(t, "count: "+c.why, c.row)
		noNumberList(t, "first: "+c.why, "\x01"+c.row)
		noNumberList(t, "second: "+c.why, "\x02\x07"+c.row)
		noNumberList(t, "first, with one behind: "+c.why, "\x02"+c.row+"\x07")
	}
	for _, size := range []int64{impl.MaxList + 1, 256, 5000} {
		noNumberList(t, "too many", string(impl.Number(size))+strings.Repeat("\x00", int(size)))
	}
	noNumberList(t, "far too many", string(impl.Number(impl.MaxNumber)))
	noNumberList(t, "far too many", string(impl.Number(impl.MaxNumber))+"\x00\x00")
}

func TestReadNumbersOfEveryShortTextThatIsMixed(t *testing.T) {
	texts("\x00\x01\x02\x03\x7f\x80\x81\xff", 5, func(row string) {
		list, is := impl.ReadNumbers(row)
		if is && impl.Numbers(list) != row {
			t.Fatalf("ReadNumbers(%x) is %v, of which Numbers makes %x", row, list, impl.Numbers(list))
		}
		if !is && len(list) != 0 {
			t.Fatalf("ReadNumbers(%x) is %v and false", row, list)
		}
	})
}

// allBytes is a text of each byte once.
func allBytes() string {
	row := make([]byte, 256)
	for i := range row {
		row[i] = byte(i)
	}
	return string(row)
}

// textLists are lists of which Texts makes a text.
func textLists() [][]string {
	lists := [][]string{nil, {}, {""}, {"", ""}, {"", "", "a", ""}, {"x", "", "yz"}, {"\x00"}, {"\x01a", "\x80", "\xff\xfe"}, {allBytes()}, {"same", "same"}}
	for _, size := range []int{1, 127, 128, 129, 300, impl.MaxText - 1, impl.MaxText} {
		long := strings.Repeat("q", size)
		lists = append(lists, []string{long}, []string{"", long, "e"}, []string{long, long})
	}
	for _, size := range []int{127, 128, impl.MaxList - 1, impl.MaxList} {
		list := make([]string, size)
		for i := range list {
			list[i] = strings.Repeat("r", i*i%(impl.MaxText+1))
		}
		lists = append(lists, make([]string, size), list)
	}
	return append(lists, slices.Repeat([]string{strings.Repeat("s", impl.MaxText)}, impl.MaxList))
}

func TestTextsIsTheRowTheDocumentTells(t *testing.T) {
	long := strings.Repeat("q", impl.MaxText)
	for _, c := range []struct {
		list []string
		row  string
	}{
		{nil, "\x00"},
		{[]string{}, "\x00"},
		{[]string{""}, "\x01\x00"},
		{[]string{"x", "", "yz"}, "\x03\x01x\x00\x02yz"},
		{[]string{"\x00\x80"}, "\x01\x02\x00\x80"},
		{[]string{long[:128]}, "\x01\x80\x01" + long[:128]},
		{[]string{"a", long}, "\x02\x01a\xd0\x0f" + long},
		{make([]string, impl.MaxList), "\xc8\x01" + strings.Repeat("\x00", impl.MaxList)},
	} {
		if row := impl.Texts(c.list); row != c.row {
			t.Errorf("Texts(%.40q) is %.40x, not %.40x", c.list, row, c.row)
		}
	}
}

func TestReadTextsOfTextsIsTheList(t *testing.T) {
	for _, list := range textLists() {
		row := impl.Texts(list)
		if row == "" {
			t.Fatalf("Texts of %d texts is empty: %.40q", len(list), list)
		}
		if got, is := impl.ReadTexts(row); !is || !slices.Equal(got, list) {
			t.Fatalf("ReadTexts(%.40x) is %.40q, %v, not %.40q", row, got, is, list)
		}
	}
}

func TestTextsOfTooManyOrOneTooLongIsEmpty(t *testing.T) {
	for _, size := range []int{impl.MaxList + 1, impl.MaxList + 2, 5000} {
		if row := impl.Texts(make([]string, size)); row != "" {
			t.Errorf("Texts of %d texts is %.20x, not empty", size, row)
		}
	}
	for _, size := range []int{impl.MaxText + 1, impl.MaxText + 2, 100000} {
		long := strings.Repeat("q", size)
		for _, list := range [][]string{{long}, {long, "a", ""}, {"a", long, ""}, {"a", "", long}} {
			if row := impl.Texts(list); row != "" {
				t.Errorf("Texts with one of %d bytes is %.20x, not empty", size, row)
			}
		}
	}
}

// noTextList fails where ReadTexts takes a text of which it is known that Texts doesn't make it.
func noTextList(t *testing.T, why, row string) {
	t.Helper()
	if list, is := impl.ReadTexts(row); is || len(list) != 0 {
		t.Errorf("%s: ReadTexts(%.20x) is %.40q, %v", why, row, list, is)
	}
}

func TestReadTextsOfAnythingElseIsNothing(t *testing.T) {
	for _, list := range textLists() {
		row := impl.Texts(list)
		step := len(row)/500 + 1
		for end := 0; end < len(row); end += step {
			noTextList(t, "cut short", row[:end])
		}
		noTextList(t, "cut short by one", row[:len(row)-1])
		for _, behind := range []string{"\x00", "\x01", "\x80", "\x01a", "q", row} {
			noTextList(t, "more behind", row+behind)
		}
	}
	for _, c := range noNumbers {
		noTextList(t, "count: "+c.why, c.row)
		noTextList(t, "first's size: "+c.why, "\x01"+c.row)
		noTextList(t, "second's size: "+c.why, "\x02\x01a"+c.row)
		noTextList(t, "size, with bytes behind: "+c.why, "\x01"+c.row+"abc")
	}
	for _, size := range []int64{impl.MaxList + 1, 256, 5000} {
		noTextList(t, "too many", string(impl.Number(size))+strings.Repeat("\x00", int(size)))
	}
	for _, size := range []int64{impl.MaxText + 1, impl.MaxText + 2, 100000} {
		noTextList(t, "too long", "\x01"+string(impl.Number(size))+strings.Repeat("q", int(size)))
	}
	noTextList(t, "far too many", string(impl.Number(impl.MaxNumber))+"\x00")
	noTextList(t, "far too long", "\x01"+string(impl.Number(impl.MaxNumber))+"q")
}

func TestReadTextsOfEveryShortTextThatIsMixed(t *testing.T) {
	texts("\x00\x01\x02\x03a\x80\x81\xff", 5, func(row string) {
		list, is := impl.ReadTexts(row)
		if is && impl.Texts(list) != row {
			t.Fatalf("ReadTexts(%x) is %q, of which Texts makes %x", row, list, impl.Texts(list))
		}
		if !is && len(list) != 0 {
			t.Fatalf("ReadTexts(%x) is %q and false", row, list)
		}
	})
}

func TestReadNumberLeavesItsData(t *testing.T) {
	rows := []string{"\xac\x02\x09", "\x80"}
	for _, c := range noNumbers {
		rows = append(rows, c.row, c.row+"\x05")
	}
	for _, row := range rows {
		data, picture := roomy([]byte(row), '\x2a')
		impl.ReadNumber(data)
		stays(t, "ReadNumber", data, picture)
	}
}

func TestReadNumberDoesNotLookIntoTheRoomBehind(t *testing.T) {
	data, _ := roomy([]byte("\x80"), '\x01')
	if n, size := impl.ReadNumber(data); n != 0 || size != 0 {
		t.Errorf("ReadNumber(80), with 01 in the room behind, is %d, %d", n, size)
	}
}

func TestNumbersLeavesItsList(t *testing.T) {
	for _, given := range [][]int64{nil, {5, 300}, {-1, 4}, {4, impl.MaxNumber + 1}, make([]int64, impl.MaxList), make([]int64, impl.MaxList+1)} {
		list, picture := roomy(given, 42)
		impl.Numbers(list)
		stays(t, "Numbers", list, picture)
	}
}

func TestTextsLeavesItsList(t *testing.T) {
	for _, given := range [][]string{nil, {"x", "", "yz"}, {strings.Repeat("q", impl.MaxText+1), "a"}, make([]string, impl.MaxList), make([]string, impl.MaxList+1)} {
		list, picture := roomy(given, "filler")
		impl.Texts(list)
		stays(t, "Texts", list, picture)
	}
}

func TestNumberIsNewMemory(t *testing.T) {
	for _, n := range append([]int64{0, 1, 127, 128, 300, impl.MaxNumber}, outNumbers...) {
		first, second := impl.Number(n), impl.Number(n)
		picture := slices.Clone(second)
		scribble(first, '\x2a')
		if !bytes.Equal(second, picture) || !bytes.Equal(impl.Number(n), picture) {
			t.Errorf("Number(%d): two answers share memory", n)
		}
	}
}

func TestReadNumbersIsNewMemory(t *testing.T) {
	for _, list := range numberLists() {
		row := impl.Numbers(list)
		first, _ := impl.ReadNumbers(row)
		second, _ := impl.ReadNumbers(row)
		scribble(first, 42)
		third, _ := impl.ReadNumbers(row)
		if !slices.Equal(second, list) || !slices.Equal(third, list) || impl.Numbers(list) != row {
			t.Errorf("ReadNumbers(%.20x): two answers share memory", row)
		}
	}
}

func TestReadTextsIsNewMemory(t *testing.T) {
	for _, list := range textLists() {
		row := strings.Clone(impl.Texts(list))
		first, _ := impl.ReadTexts(row)
		for _, s := range first {
			if within(s, row) {
				t.Fatalf("ReadTexts(%.20x): the text %.20q lies in the argument", row, s)
			}
		}
		second, _ := impl.ReadTexts(row)
		scribble(first, "scribble")
		if !slices.Equal(second, list) {
			t.Errorf("ReadTexts(%.20x): two answers share memory", row)
		}
	}
}

func TestTextsIsNewMemory(t *testing.T) {
	for _, list := range textLists() {
		row := impl.Texts(list)
		for _, s := range list {
			if within(row, s) {
				t.Fatalf("Texts(%.40q) lies in its argument", list)
			}
		}
	}
}
