package tests

import (
	"encoding/binary"
	"math"
	"slices"
	"strconv"
	"strings"
	"testing"

	"loop.example/g00260/impl"
)

// edgeKinds are the two that there are, and such as are none.
var edgeKinds = []int64{impl.NoLay, impl.NoSweep, 0, 3, 4, -1, -2, 127, 128, 256, 257, impl.MaxNumber, impl.MaxNumber + 1, 1 << 32, 1<<32 + 1, 1<<32 + 2, math.MinInt64, math.MinInt64 + 1, math.MinInt64 + 2, math.MaxInt64 - 1, math.MaxInt64}

// lay is a Note that a text is Laid.
func lay(stamp int64, text string) impl.Note {
	return impl.Note{Kind: impl.NoLay, A: stamp, Text: text}
}

// sweep is a Note that a Shelf is Swept by these marks, whatever they are.
func sweep(round int64, marks ...int64) impl.Note {
	return impl.Note{Kind: impl.NoSweep, A: round, Text: countedRow(marks...)}
}

// countedRow is how many numbers there are, and these, whatever they are.
func countedRow(numbers ...int64) string {
	return rowText(int64(len(numbers))) + rowText(numbers...)
}

// sizedText is how many bytes a text has, and these.
func sizedText(s string) string {
	return rowText(int64(len(s))) + s
}

// bodyText is how many texts there are, and each of them as sizedText has it.
func bodyText(parts ...string) string {
	body := rowText(int64(len(parts)))
	for _, s := range parts {
		body += sizedText(s)
	}
	return body
}

// laidAsNote is a text with what a Note has ahead and behind, a right Digest too, whatever the text is.
func laidAsNote(body string) string {
	return sizedText(body) + rowText(digestText(body))
}

// digestText tells the Digest.
func digestText(s string) int64 {
	return max(treeState(1, s), 1)
}

// noteText tells ShowNote of a Note, whatever that is.
func noteText(n impl.Note) string {
	return laidAsNote(bodyText(countedRow(n.Kind, n.A), n.Text))
}

// numbersIn are those of which countedRow makes the text; false where there are none.
func numbersIn(s string) ([]int64, bool) {
	rest := []byte(s)
	count, size := binary.Uvarint(rest)
	if size <= 0 || count > 200 {
		return nil, false
	}
	var list []int64
	for range count {
		rest = rest[size:]
		var n uint64
		if n, size = binary.Uvarint(rest); size <= 0 || n > 1<<40 {
			return nil, false
		}
		list = append(list, int64(n))
	}
	return list, countedRow(list...) == s
}

// noteRight tells whether a Note is right, word by word.
func noteRight(n impl.Note) bool {
	if n.A < 0 || n.A > 100000 || len(n.Text) > 2000 {
		return false
	}
	if n.Kind == 1 {
		return true
	}
	marks, is := numbersIn(n.Text)
	for i, mark := range marks {
		is = is && (i == 0 || mark > marks[i-1])
	}
	return n.Kind == 2 && is
}

// noteAhead guesses by its parts which Note a disk begins with, and holds what that makes against the disk.
func noteAhead(disk string) (impl.Note, bool) {
	rest := []byte(disk)
	next := func() uint64 {
		n, size := binary.Uvarint(rest)
		rest = rest[max(size, 0):]
		return n
	}
	for range 4 { // how many bytes, how many texts, how many bytes the first has, how many numbers
		next()
	}
	kind, a, size := next(), next(), next()
	if size > uint64(len(rest)) {
		return impl.Note{}, false
	}
	n := impl.Note{Kind: int64(kind), A: int64(a), Text: string(rest[:size])}
	return n, noteRight(n) && strings.HasPrefix(disk, noteText(n))
}

// notesOf tells Notes.
func notesOf(disk string) ([]impl.Note, int64) {
	var list []impl.Note
	taken := 0
	for {
		n, is := noteAhead(disk[taken:])
		if !is {
			return list, int64(taken)
		}
		list, taken = append(list, n), taken+len(noteText(n))
	}
}

// replayedOf tells Replayed, one by one.
func replayedOf(list []impl.Note) (impl.Shelf, int64) {
	var s impl.Shelf
	did := int64(0)
	for _, n := range list {
		if !noteRight(n) {
			return impl.Shelf{}, 0
		}
		if n.Kind == 1 {
			after, _, code := laidOf(s, n.Text, n.A)
			if s = after; code == impl.PtNew || code == impl.PtAgain {
				did++
			}
			continue
		}
		marks, _ := numbersIn(n.Text)
		after, went := sweptOf(s, n.A, marks)
		if s = after; went != -1 {
			did++
		}
	}
	return syncedOf(s), did
}

// noteShown is a Note for one to read.
func noteShown(n impl.Note) string {
	return "{" + strconv.FormatInt(n.Kind, 10) + " " + strconv.FormatInt(n.A, 10) + " " + strconv.Quote(n.Text[:min(len(n.Text), 30)]) + " of " + strconv.Itoa(len(n.Text)) + "}"
}

// notesShown are the first Notes of a list, and how many it has, for one to read.
func notesShown(list []impl.Note) string {
	text := strconv.Itoa(len(list)) + " Notes"
	for _, n := range list[:min(len(list), 6)] {
		text += " " + noteShown(n)
	}
	return text
}

// diskOf is the ShowNote of each, one behind the other, and where each one ends.
func diskOf(list []impl.Note) (string, []int) {
	disk, ends := "", []int{}
	for _, n := range list {
		disk += impl.ShowNote(n)
		ends = append(ends, len(disk))
	}
	return disk, ends
}

// risingMarks are this many numbers that rise, from one on, by a step.
func risingMarks(count int, from, step int64) []int64 {
	var marks []int64
	for i := range int64(count) {
		marks = append(marks, from+i*step)
	}
	return marks
}

// rightNotes are Notes of all shapes: ordinary ones and edges.
func rightNotes() []impl.Note {
	var list []impl.Note
	for _, text := range []string{"", "hi", "one", "\x00", "\x01", "\x00\x00", "\x80", "\xff\xff", "\xc3", "cellar", "korseta", "dsnkkko", sevenRound + sevenRound, mixed(127, 3), mixed(128, 3), allBytes(), mixed(impl.MaxText-1, 5), mixed(impl.MaxText, 7), strings.Repeat("\x00", impl.MaxText), strings.Repeat("\xff", impl.MaxText), longAs("")[:impl.MaxText], impl.Leaf("a chunk"), impl.Branch([]int64{5, 300})} {
		list = append(list, lay(4, text))
	}
	for _, marks := range [][]int64{nil, {0}, {5}, {1, 2}, {0, 1, 127, 128, 16383, 16384}, {1000101, 1970437566}, {impl.MaxNumber}, {impl.MaxNumber - 1, impl.MaxNumber}, {0, impl.MaxNumber}, risingMarks(127, 9, 3), risingMarks(128, 9, 3), risingMarks(impl.MaxList-1, 0, 1), risingMarks(impl.MaxList, 0, 1), risingMarks(impl.MaxList, 1, 10000000), risingMarks(impl.MaxList, impl.MaxNumber-impl.MaxList+1, 1)} {
		list = append(list, sweep(5, marks...))
	}
	for _, a := range edgeRounds {
		list = append(list, lay(a, "hi"), lay(a, ""), sweep(a), sweep(a, 3, 9), lay(a, countedRow(5, 3)))
	}
	for _, a := range []int64{126, 127, 128, 129, 16383, 16384, 99999, 100000} {
		list = append(list, lay(a, "at a place where its Number grows"), sweep(a, 127, 128))
	}
	return append(list, lay(3, noteText(lay(3, "a Note in a Note"))), lay(3, noteText(sweep(3))[1:]))
}

// shortNotes are those of rightNotes that are gone through soon.
func shortNotes() []impl.Note {
	return slices.DeleteFunc(rightNotes(), func(n impl.Note) bool { return len(n.Text) > 100 })
}

// A wrongNote is one that is not right.
type wrongNote struct {
	why  string
	note impl.Note
}

// wrongNotes are wrong by all there is to be wrong.
func wrongNotes() []wrongNote {
	wrong := []wrongNote{{"the zero Note", impl.Note{}}}
	for _, kind := range edgeKinds[2:] {
		for _, n := range []impl.Note{lay(4, "hi"), lay(0, ""), sweep(5), sweep(5, 3, 9)} {
			n.Kind = kind
			wrong = append(wrong, wrongNote{"there is no such Kind", n})
		}
	}
	for _, a := range outRounds {
		wrong = append(wrong, wrongNote{"the stamp is out of range", lay(a, "hi")}, wrongNote{"the stamp is out of range", lay(a, "")}, wrongNote{"the round is out of range", sweep(a)}, wrongNote{"the round is out of range", sweep(a, 3, 9)})
	}
	for _, size := range []int{impl.MaxText + 1, impl.MaxText + 2, 2 * impl.MaxText, 1 << 16, 1<<16 + 2, 300000} {
		wrong = append(wrong, wrongNote{"the text is too long", lay(4, mixed(size, 3))}, wrongNote{"the text is too long", lay(4, strings.Repeat("\x00", size))})
	}
	sweepOf := func(why, text string) {
		wrong = append(wrong, wrongNote{why, impl.Note{Kind: impl.NoSweep, A: 5, Text: text}})
	}
	for _, marks := range [][]int64{nil, {0}, {5, 300}, risingMarks(impl.MaxList, 0, 1), risingMarks(impl.MaxList, 1, 10000000)} {
		s := countedRow(marks...)
		sweepOf("a byte more than Numbers", s+"\x00")
		sweepOf("a byte more than Numbers", s+"\x01")
		sweepOf("a byte less than Numbers", s[:len(s)-1])
		sweepOf("Numbers two times", s+s)
		if len(marks) > 1 { // with less there may be other Numbers
			sweepOf("a byte ahead of Numbers", "\x01"+s)
			sweepOf("the first byte is not there", s[1:])
		}
	}
	for _, marks := range [][]int64{{9, 3}, {1, 0}, {3, 3}, {0, 0}, {impl.MaxNumber, impl.MaxNumber}, {impl.MaxNumber, 0}, {1, 2, 2}, {1, 1, 2}, {1, 3, 2}, {2, 1, 3}, {3, 1, 2}, {1, 2, 3, 1}, {128, 127}, {16384, 5}, append(risingMarks(impl.MaxList-1, 1, 1), impl.MaxList-1), append(risingMarks(impl.MaxList-1, 1, 1), 0), reversed(risingMarks(impl.MaxList, 0, 1)), slices.Repeat([]int64{7}, impl.MaxList)} {
		sweepOf("the marks do not rise", countedRow(marks...))
	}
	for _, marks := range [][]int64{{impl.MaxNumber + 1}, {5, impl.MaxNumber + 1}, {1 << 41}, {1 << 62}, {math.MaxInt64}, {-1}, {math.MinInt64}, risingMarks(impl.MaxList+1, 0, 1), risingMarks(impl.MaxList+2, 0, 1), risingMarks(1000, 0, 1)} {
		sweepOf("a mark is out of range, or there are too many", countedRow(marks...))
	}
	for _, text := range []string{"", "x", "hi", "\x01", "\x02", "\x02\x05", "\x80", "\x80\x00", "\x00\x00", "\x81\x00\x05", "\x01\x85\x00", "\x02\x03\x89\x00", "\xff\xff", bodyText("a"), bodyText("", ""), allBytes()} {
		sweepOf("no Numbers", text)
	}
	for _, c := range noNumbers {
		sweepOf("no count: "+c.why, c.row)
		sweepOf("no mark: "+c.why, "\x01"+c.row)
		sweepOf("no second mark: "+c.why, "\x02\x00"+c.row)
	}
	return append(wrong, wrongNote{"there is no such Kind, and all else is wrong", impl.Note{Kind: 3, A: -1, Text: mixed(impl.MaxText+1, 3)}}, wrongNote{"all but the Kind is wrong", lay(-1, mixed(impl.MaxText+1, 3))}, wrongNote{"the round and the marks are wrong", impl.Note{Kind: impl.NoSweep, A: -1, Text: "x"}})
}

// readsNotes fails where Notes is not this.
func readsNotes(t *testing.T, why, disk string, wanted []impl.Note, taken int64) {
	t.Helper()
	if got, n := impl.Notes(disk); n != taken || !slices.Equal(got, wanted) {
		t.Fatalf("%s: Notes of %d bytes, %.60q, are %s and %d, not %s and %d", why, len(disk), disk, notesShown(got), n, notesShown(wanted), taken)
	}
}

// readsNotesRight is readsNotes where the document's words are followed one by one.
func readsNotesRight(t *testing.T, why, disk string) {
	t.Helper()
	wanted, taken := notesOf(disk)
	readsNotes(t, why, disk, wanted, taken)
}

// readsNone fails where Notes of this alone, or of it behind a right Note, has anything of it, whatever right Note is behind.
func readsNone(t *testing.T, why, row string) {
	t.Helper()
	first := sweep(3, 5, 300)
	ahead := noteText(first)
	for _, behind := range []string{"", noteText(lay(4, "hi")), "\x00", "\xff"} {
		readsNotes(t, why, row+behind, nil, 0)
		readsNotes(t, why+", a Note ahead of it", ahead+row+behind, []impl.Note{first}, int64(len(ahead)))
	}
}

// replays fails where Replayed is not this.
func replays(t *testing.T, why string, list []impl.Note, wanted impl.Shelf, did int64) {
	t.Helper()
	if got, n := impl.Replayed(list); n != did || !sameShelf(got, wanted) {
		t.Fatalf("%s: Replayed of %s is %s and %d, not %s and %d", why, notesShown(list), shelfShown(got), n, shelfShown(wanted), did)
	}
}

// replaysRight is replays where the document's words are followed one by one; all are Sure.
func replaysRight(t *testing.T, why string, list []impl.Note) {
	t.Helper()
	wanted, did := replayedOf(list)
	replays(t, why, list, wanted, did)
	for _, i := range wanted.Items {
		if !i.Sure || i.Kept != i.Stamp {
			t.Fatalf("%s: Replayed of %s leaves %s", why, notesShown(list), shelfShown(wanted))
		}
	}
}

func TestTheKindsOfNotes(t *testing.T) {
	if impl.NoLay != 1 || impl.NoSweep != 2 {
		t.Error("a Kind is not the document's")
	}
}

func TestNoteOkOfRightNotes(t *testing.T) {
	for _, n := range rightNotes() {
		if !impl.NoteOk(n) || !noteRight(n) {
			t.Errorf("%s, a right one, is not NoteOk", noteShown(n))
		}
	}
}

func TestWhatIsNoRightNote(t *testing.T) {
	for _, w := range wrongNotes() {
		if impl.NoteOk(w.note) || noteRight(w.note) {
			t.Errorf("%s: NoteOk is true of %s", w.why, noteShown(w.note))
		}
		if s := impl.ShowNote(w.note); s != "" {
			t.Errorf("%s: ShowNote of %s is %.60q, not empty", w.why, noteShown(w.note), s)
		}
	}
}

// Of each Kind, each A, and texts of all kinds.
func TestNoteOkAtTheEdges(t *testing.T) {
	var some []string
	for _, n := range rightNotes() {
		some = append(some, n.Text)
	}
	for _, w := range wrongNotes() {
		some = append(some, w.note.Text)
	}
	slices.Sort(some)
	for _, text := range slices.Compact(some) {
		for _, kind := range edgeKinds {
			for _, a := range edgeStamps {
				n := impl.Note{Kind: kind, A: a, Text: text}
				right := isRound(a) && len(text) <= impl.MaxText && (kind == impl.NoLay || kind == impl.NoSweep)
				if right && kind == impl.NoSweep {
					right = noteRight(n)
				}
				if impl.NoteOk(n) != right {
					t.Fatalf("NoteOk of %s is %v", noteShown(n), !right)
				}
			}
		}
	}
}

// Of each short text of these bytes a sweep is right where it is Numbers that rise.
func TestNoteOkOfEachShortSweep(t *testing.T) {
	many := 0
	texts("\x00\x01\x02\x03\x7f\x80\x81\xff", 5, func(text string) {
		n := impl.Note{Kind: impl.NoSweep, A: 5, Text: text}
		right := noteRight(n)
		if impl.NoteOk(n) != right {
			t.Fatalf("NoteOk of %s is %v", noteShown(n), !right)
		}
		if right {
			many++
			readsNotes(t, "a sweep", noteText(n), []impl.Note{n}, int64(len(noteText(n))))
		} else {
			readsNotes(t, "no right sweep", noteText(n), nil, 0)
		}
	})
	if many < 100 {
		t.Errorf("only %d of the test's own texts are right", many)
	}
}

func TestShowNoteIsTheBytesTheDocumentTells(t *testing.T) {
	for _, c := range []struct {
		note impl.Note
		row  string
	}{
		{lay(4, "hi"), "\x08\x02\x03\x02\x01\x04\x02hi\x84\xa0\xf7\xe3\x02"},
		{lay(0, ""), "\x06\x02\x03\x02\x01\x00\x00\x88\xba\xef\xe3\x03"},
		{lay(128, "\x01"), "\x08\x02\x04\x02\x01\x80\x01\x01\x01\xec\xb1\x93\xcc\x01"},
		{lay(impl.MaxRound, ""), "\x08\x02\x05\x02\x01\xa0\x8d\x06\x00\xe5\x92\xaf\x97\x06"},
		{sweep(5), "\x07\x02\x03\x02\x02\x05\x01\x00\x96\x91\x9e\xf4\x01"},
		{sweep(0, 5, 300), "\x0a\x02\x03\x02\x02\x00\x04\x02\x05\xac\x02\xc3\xf8\xe8\x5b"},
	} {
		if row := impl.ShowNote(c.note); row != c.row {
			t.Errorf("ShowNote of %s is %q, not %q", noteShown(c.note), row, c.row)
		}
		readsNotes(t, "one", c.row, []impl.Note{c.note}, int64(len(c.row)))
	}
	for _, n := range rightNotes() {
		row := impl.ShowNote(n)
		if wanted := noteText(n); row != wanted {
			t.Fatalf("ShowNote of %s is %.60q, not %.60q", noteShown(n), row, wanted)
		}
		body := impl.Texts([]string{impl.Numbers([]int64{n.Kind, n.A}), n.Text})
		if wanted := string(impl.Number(int64(len(body)))) + body + string(impl.Number(impl.Digest(body))); row != wanted {
			t.Fatalf("ShowNote of %s is %.60q, not what chapters 1 and 2 make of it, %.60q", noteShown(n), row, wanted)
		}
	}
}

func TestNotesOfShowNoteIsTheNote(t *testing.T) {
	for _, n := range rightNotes() {
		row := impl.ShowNote(n)
		readsNotes(t, "one", row, []impl.Note{n}, int64(len(row)))
		readsNotes(t, "three times", row+row+row, []impl.Note{n, n, n}, int64(3*len(row)))
		for _, junk := range []string{"\x00", "\x01", "\x80", "\xff", "junk", strings.Repeat("\x00", 50), strings.Repeat("\x80", 50)} {
			readsNotes(t, "junk behind it", row+junk, []impl.Note{n}, int64(len(row)))
			readsNotes(t, "junk and once more behind it", row+junk+row, []impl.Note{n}, int64(len(row)))
			readsNotes(t, "junk ahead of it", junk+row, nil, 0)
		}
		for _, piece := range []string{row[:1], row[:len(row)-1], row[1:]} {
			readsNotes(t, "a piece behind it", row+piece, []impl.Note{n}, int64(len(row)))
			readsNotesRight(t, "a piece and once more behind it", row+piece+row)
			readsNotesRight(t, "a piece ahead of it", piece+row)
		}
	}
}

// journals are lists of right Notes: ordinary ones and edges.
func journals() [][]impl.Note {
	short := shortNotes()
	lists := [][]impl.Note{
		{lay(1, "one")}, {lay(0, "")}, {sweep(0)},
		{lay(4, "hi"), sweep(5), sweep(4), lay(5, "x")},
		{lay(1, "a"), lay(2, "b"), lay(1, "a"), sweep(2, 1000101), lay(3, "cellar"), sweep(3, 1000102), lay(3, "a")},
		{lay(2, "atuwtwkco"), lay(3, "qybuogwlf"), sweep(3), lay(3, "qybuogwlf"), lay(4, "atuwtwkco")},
		{sweep(9), sweep(8), sweep(9), sweep(10), lay(1, "a"), sweep(impl.MaxRound), sweep(impl.MaxRound - 1)},
		{lay(1, ""), lay(1, ""), lay(1, ""), sweep(2, 1), sweep(3)},
		{lay(1, mixed(impl.MaxText, 1)), sweep(1, risingMarks(impl.MaxList, 1, 10000000)...), lay(2, mixed(300, 2)), sweep(2, 5)},
		{lay(1, noteText(lay(3, "a Note in a Note"))), lay(3, "a Note in a Note")},
		short, slices.Repeat([]impl.Note{lay(7, "")}, 40),
	}
	for seed := range uint32(4) {
		lists = append(lists, shuffled(short, seed)[:12])
	}
	return lists
}

// cutsWell fails where a disk that is cut has not its first Notes, or these do not lay the same Shelf. It is cut at each place of these.
func cutsWell(t *testing.T, list []impl.Note, places []int) {
	t.Helper()
	disk, ends := diskOf(list)
	replayed := -1
	for _, place := range places {
		whole, taken := 0, 0
		for whole < len(list) && ends[whole] <= place {
			taken, whole = ends[whole], whole+1
		}
		got, n := impl.Notes(disk[:place])
		if n != int64(taken) || !slices.Equal(got, list[:whole]) {
			t.Fatalf("of %s, on %d bytes, cut at %d, Notes are %s and %d, not the first %d and %d", notesShown(list), len(disk), place, notesShown(got), n, whole, taken)
		}
		if whole != replayed {
			replayed = whole
			replaysRight(t, "what was read", got)
			wanted, did := replayedOf(list[:whole])
			replays(t, "what was read, as what was written", got, wanted, did)
		}
	}
}

func TestADiskThatIsCutAnywhereHasItsFirstNotes(t *testing.T) {
	for _, list := range journals() {
		disk, _ := diskOf(list)
		var places []int
		for place := range len(disk) + 1 {
			places = append(places, place)
		}
		cutsWell(t, list, places)
	}
	all := rightNotes()
	_, ends := diskOf(all)
	places := []int{0, 1, 2}
	for _, end := range ends {
		places = append(places, end-3, end-2, end-1, end, end+1, end+2)
	}
	slices.Sort(places)
	cutsWell(t, all, places[:len(places)-2])
}

// What is written behind a cut is not read, unless it was no Note that was cut.
func TestNotesOfADiskThatIsCutAndWrittenOn(t *testing.T) {
	for _, list := range journals()[:8] {
		disk, ends := diskOf(list)
		for place := range len(disk) + 1 {
			whole, taken := 0, 0
			for whole < len(list) && ends[whole] <= place {
				taken, whole = ends[whole], whole+1
			}
			for _, next := range []impl.Note{lay(4, "hi"), sweep(5), lay(0, "")} {
				row := impl.ShowNote(next)
				written := disk[:place] + row
				switch {
				case taken == place:
					readsNotes(t, "written on", written, append(slices.Clone(list[:whole]), next), int64(len(written)))
				case strings.HasPrefix(written, disk[:ends[whole]]): // the byte that was cut off is the one that comes
					readsNotesRight(t, "made whole by what comes", written)
				default:
					readsNotes(t, "cut, and written on", written, list[:whole], int64(taken))
				}
			}
		}
	}
}

func TestNotesOfDisksWithoutNotes(t *testing.T) {
	readsNotes(t, "an empty disk", "", nil, 0)
	for b := range 256 {
		readsNone(t, "one byte", string([]byte{byte(b)}))
	}
	for _, row := range []string{"junk", "hello, world", allBytes(), strings.Repeat("\x00", 5000), strings.Repeat("\x01", 5000), strings.Repeat("\x02", 5000), strings.Repeat("\x06", 5000), strings.Repeat("\x80", 5000), strings.Repeat("\xff", 5000)} {
		readsNone(t, "junk", row)
	}
	for seed := range uint32(300) {
		readsNone(t, "junk of all bytes", mixed(int(seed)+1, seed))
		readsNone(t, "junk that begins as a Note", "\x08\x02\x03\x02\x01"+mixed(20, seed))
	}
	first := noteText(lay(4, "hi"))
	texts("\x00\x01\x02\x03\x06\x80\xff", 5, func(row string) {
		readsNotes(t, "junk", row, nil, 0)
		readsNotes(t, "junk behind a Note", first+row, []impl.Note{lay(4, "hi")}, int64(len(first)))
	})
}

// flips fails where a Note is read of which a bit is turned, alone or between others; the bits are at each step-th place.
func flips(t *testing.T, n impl.Note, step int) {
	t.Helper()
	row := impl.ShowNote(n)
	first := lay(2, "ahead")
	ahead, behind := impl.ShowNote(first), impl.ShowNote(lay(3, "behind"))
	for place := 0; place < len(row); place += step {
		for bit := range 8 {
			turned := []byte(row)
			turned[place] ^= 1 << bit
			readsNotes(t, "a bit is turned", string(turned), nil, 0)
			readsNotes(t, "a bit is turned, others are about", ahead+string(turned)+behind, []impl.Note{first}, int64(len(ahead)))
		}
	}
}

func TestNotesOfANoteWithOneBitTurned(t *testing.T) {
	for _, n := range shortNotes() {
		flips(t, n, 1)
	}
	for _, n := range []impl.Note{lay(4, mixed(121, 1)), lay(4, mixed(200, 1)), lay(impl.MaxRound, allBytes()), sweep(5, risingMarks(127, 9, 3)...)} {
		flips(t, n, 1)
	}
	for _, n := range []impl.Note{lay(4, mixed(impl.MaxText, 1)), sweep(5, risingMarks(impl.MaxList, 1, 10000000)...)} {
		flips(t, n, 7)
	}
}

// With another byte at each place, a byte less, or a byte more.
func TestNotesOfANoteWithOneByteChanged(t *testing.T) {
	for _, n := range []impl.Note{lay(4, "hi"), lay(0, ""), lay(impl.MaxRound, "cellar"), sweep(5), sweep(300, 5, 300), sweep(0, impl.MaxNumber)} {
		row := impl.ShowNote(n)
		for place := range len(row) {
			readsNone(t, "a byte less", row[:place]+row[place+1:])
			for b := range 256 {
				if other := string([]byte{byte(b)}); other != row[place:place+1] {
					readsNone(t, "another byte", row[:place]+other+row[place+1:])
					readsNotes(t, "a byte more", row[:place]+other+row[place:], nil, 0)
				}
			}
		}
	}
}

// What lies as a Note does, the Number of its bytes and its Digest right, but is no right Note.
func TestNotesOfWhatLiesAsANoteAndIsNone(t *testing.T) {
	head := countedRow(1, 4)
	for _, c := range []struct{ why, body string }{
		{"no bytes", ""},
		{"no texts", bodyText()},
		{"one text", bodyText(head)},
		{"three texts", bodyText(head, "hi", "ho")},
		{"three texts, the last one empty", bodyText(head, "hi", "")},
		{"four texts", bodyText(head, "hi", head, "hi")},
		{"the texts the other way round", bodyText("hi", head)},
		{"a byte behind the texts", bodyText(head, "hi") + "\x00"},
		{"a Note behind the texts", bodyText(head, "hi") + noteText(lay(4, "hi"))},
		{"a byte ahead of the texts", "\x00" + bodyText(head, "hi")},
		{"a byte less", bodyText(head, "hi")[:7]},
		{"one text less than is said", "\x03" + bodyText(head, "hi")[1:]},
		{"one text more than is said", "\x01" + bodyText(head, "hi")[1:]},
		{"too many texts", bodyText(slices.Repeat([]string{head}, impl.MaxList+1)...)},
		{"very many texts", bodyText(slices.Repeat([]string{head}, impl.MaxList)...)},
		{"no texts, but the parts", head + "hi"},
		{"Kind and A are none", bodyText("", "hi")},
		{"no numbers for Kind and A", bodyText(countedRow(), "hi")},
		{"a Kind, no A", bodyText(countedRow(1), "hi")},
		{"a number more than Kind and A", bodyText(countedRow(1, 4, 0), "hi")},
		{"a byte behind Kind and A", bodyText(head+"\x00", "hi")},
		{"a byte less than Kind and A", bodyText(head[:2], "hi")},
		{"Kind and A not as Numbers", bodyText("\x01\x04", "hi")},
		{"Kind and A in other words", bodyText("1 4", "hi")},
		{"very many numbers for Kind and A", bodyText(countedRow(risingMarks(impl.MaxList, 0, 1)...), "hi")},
		{"a text that is too long", bodyText(head, mixed(impl.MaxText+1, 1))},
		{"a text that is too long", bodyText(head, strings.Repeat("\x00", 100000))},
		{"Kind and A are too long", bodyText(strings.Repeat("\x02", impl.MaxText+1), "hi")},
		{"a Note", noteText(lay(4, "hi"))},
		{"junk", "junk"},
	} {
		readsNone(t, c.why, laidAsNote(c.body))
	}
	for _, w := range wrongNotes() {
		readsNone(t, w.why, noteText(w.note))
	}
}

// Of each short text of these bytes, with the Number of its bytes and its Digest.
func TestNotesOfEachShortTextThatLiesAsANote(t *testing.T) {
	read := 0
	see := func(body string) {
		row := laidAsNote(body)
		readsNotesRight(t, "it lies as a Note", row)
		if list, _ := impl.Notes(row); len(list) == 1 {
			read++
		}
	}
	texts("\x00\x01\x02\x03\x80", 6, see)
	texts("\x00\x01\x02\x03\x04\x05\x80", 5, func(rest string) { see("\x02\x03\x02" + rest) })
	if read < 100 {
		t.Errorf("only %d of the test's own texts were read", read)
	}
}

// longer is a number as no Number has it: with a last byte of 0 more.
func longer(n int64) string {
	row := []byte(rowText(n))
	row[len(row)-1] |= 0x80
	return string(append(row, 0))
}

func TestNotesOfNumbersThatAreLongerThanNumberMakesThem(t *testing.T) {
	for _, n := range []impl.Note{lay(4, "hi"), lay(300, ""), sweep(5, 7, 300), lay(0, mixed(200, 1))} {
		head := countedRow(n.Kind, n.A)
		body := bodyText(head, n.Text)
		size, sum := int64(len(body)), digestText(body)
		readsNotes(t, "as Number makes them", rowText(size)+body+rowText(sum), []impl.Note{n}, int64(len(noteText(n))))
		readsNone(t, "the Number of its bytes", longer(size)+body+rowText(sum))
		readsNone(t, "the Digest", rowText(size)+body+longer(sum))
		readsNone(t, "both", longer(size)+body+longer(sum))
		for _, inner := range []string{
			longer(2) + sizedText(head) + sizedText(n.Text),
			"\x02" + longer(int64(len(head))) + head + sizedText(n.Text),
			"\x02" + sizedText(head) + longer(int64(len(n.Text))) + n.Text,
			bodyText(longer(2)+rowText(n.Kind, n.A), n.Text),
			bodyText("\x02"+longer(n.Kind)+rowText(n.A), n.Text),
			bodyText("\x02"+rowText(n.Kind)+longer(n.A), n.Text),
		} {
			readsNone(t, "a Number inside", laidAsNote(inner))
		}
	}
	readsNone(t, "the Number of a mark", noteText(impl.Note{Kind: impl.NoSweep, A: 5, Text: "\x02\x07" + longer(300)}))
	readsNone(t, "the Number of marks", noteText(impl.Note{Kind: impl.NoSweep, A: 5, Text: longer(1) + "\x07"}))
}

func TestNotesOfOtherNumbersAhead(t *testing.T) {
	for _, n := range []impl.Note{lay(4, "hi"), sweep(5, 7, 300), lay(0, mixed(200, 1))} {
		body := bodyText(countedRow(n.Kind, n.A), n.Text)
		size, sum := int64(len(body)), rowText(digestText(body))
		left := size + int64(len(sum))
		for _, other := range []int64{0, 1, size - 1, size + 1, left - 1, left, left + 1, left + 2, 2 * size, 1000, impl.MaxText, impl.MaxText + 1, 1 << 16, 1 << 31, 1<<32 + size, impl.MaxNumber - 1, impl.MaxNumber, impl.MaxNumber + 1, 1 << 62, math.MaxInt64, -1, -size} {
			readsNone(t, "another number ahead", rowText(other)+body+sum)
		}
		for _, c := range noNumbers {
			readsNotes(t, "no number ahead: "+c.why, c.row, nil, 0)
			readsNone(t, "no number ahead: "+c.why, c.row+body+sum)
		}
		// The Digest fits what the number ahead says, but that is not the texts.
		for cut := range len(body) {
			readsNone(t, "less, with its Digest", laidAsNote(body[:cut]))
			readsNone(t, "the rest, with its Digest", laidAsNote(body[cut+1:]))
		}
		readsNone(t, "more, with its Digest", laidAsNote(body+sum))
		readsNone(t, "nothing ahead", body+sum)
	}
	readsNone(t, "more is said than is left", rowText(9)+bodyText(countedRow(1, 4), "hi"))
	readsNone(t, "just what is left, without a Digest", rowText(8)+bodyText(countedRow(1, 4), "hi"))
}

func TestNotesOfOtherNumbersBehind(t *testing.T) {
	for _, n := range []impl.Note{lay(4, "hi"), lay(0, ""), sweep(5, 7, 300)} {
		body := bodyText(countedRow(n.Kind, n.A), n.Text)
		sum := digestText(body)
		for _, other := range []int64{0, 1, 2, sum - 1, sum + 1, sum + 2147483647, sum + 1<<31, sum + 1<<32, 2147483647 - sum, -sum, 2 * sum, digestText(n.Text), digestText(sizedText(body)), digestText(bodyText(n.Text)), 2147483646, 2147483647, impl.MaxNumber, math.MaxInt64} {
			readsNone(t, "another Digest", sizedText(body)+rowText(other))
		}
		for _, c := range noNumbers {
			readsNone(t, "no Digest: "+c.why, sizedText(body)+c.row)
		}
		readsNone(t, "no Digest", sizedText(body))
		readsNone(t, "the Digest of another Note", sizedText(body)+rowText(digestText(bodyText(countedRow(1, 5), "hi"))))
	}
}

// layWhoseBytesCome finds a Note whose body comes to this h.
func layWhoseBytesCome(to int64) impl.Note {
	from := treeState(1, "\x02"+sizedText(countedRow(1, 4))+"\x05")
	first := map[int64]string{}
	for i := range 1 << 16 {
		s := string([]byte{byte(i), byte(i >> 8)})
		first[treeState(from, s)] = s
	}
	for i := 0; ; i++ {
		rest := string([]byte{byte(i), byte(i >> 8), byte(i >> 16)})
		if s, is := first[undone(to, rest)]; is {
			return lay(4, s+rest)
		}
	}
}

// An h of 0 has the Digest 1, and one of the greatest has that.
func TestNotesWhoseDigestIsAtAnEdge(t *testing.T) {
	for _, c := range []struct{ h, digest int64 }{{0, 1}, {1, 1}, {2, 2}, {127, 127}, {128, 128}, {greatestDigest, greatestDigest}} {
		n := layWhoseBytesCome(c.h)
		body := bodyText(countedRow(1, 4), n.Text)
		if treeState(1, body) != c.h || bigDigest(body) != c.digest {
			t.Fatalf("the test's own Note %s does not come to %d", noteShown(n), c.h)
		}
		row := sizedText(body) + rowText(c.digest)
		if got := impl.ShowNote(n); got != row {
			t.Errorf("ShowNote of %s is %q, not %q", noteShown(n), got, row)
		}
		readsNotes(t, "a Digest at an edge", row+row, []impl.Note{n, n}, int64(2*len(row)))
		for _, other := range []int64{c.digest - 1, c.digest + 1, 0, c.digest + 2147483647} {
			readsNone(t, "a Digest beside an edge", sizedText(body)+rowText(other))
		}
		if c.h > 1 {
			flips(t, n, 1)
		}
	}
}

// The Digest of an h of 0 is that of an h of 1: there a bit may be turned and nothing tells it.
func TestNotesOfATurnedBitThatTheDigestDoesNotTell(t *testing.T) {
	n := layWhoseBytesCome(0)
	turned := []byte(n.Text)
	turned[4] ^= 1
	other := lay(4, string(turned))
	if turned[4] < n.Text[4] || treeState(1, bodyText(countedRow(1, 4), other.Text)) != 1 {
		t.Fatalf("the test's own Note %s is not as it thinks", noteShown(n))
	}
	row := sizedText(bodyText(countedRow(1, 4), other.Text)) + "\x01"
	readsNotes(t, "a bit is turned", row, []impl.Note{other}, int64(len(row)))
}

// Of bytes that are mixed out of pieces of Notes.
func TestNotesOfDisksOfPieces(t *testing.T) {
	some := shortNotes()
	read := 0
	for seed := range uint32(20000) {
		state := seed*7919 + 1
		next := func(below int) int {
			state = state*1664525 + 1013904223
			return int(state>>8) % below
		}
		disk := ""
		for range next(5) + 1 {
			row := noteText(some[next(len(some))])
			switch next(6) {
			case 0:
				row = row[:next(len(row)+1)]
			case 1:
				row = row[next(len(row)):]
			}
			disk += row
		}
		readsNotesRight(t, "pieces", disk)
		list, _ := impl.Notes(disk)
		read += len(list)
	}
	if read < 10000 {
		t.Errorf("only %d of the test's own Notes were read", read)
	}
}

func TestNotesOfAVeryLongDisk(t *testing.T) {
	var list []impl.Note
	for i := range int64(30000) {
		if list = append(list, lay(i, "text "+strconv.FormatInt(i, 10))); i%5 == 4 {
			list[i] = sweep(i, i, 2*i, 3*i)
		}
	}
	row := make([]byte, 0, 1<<20)
	for _, n := range list {
		row = append(row, noteText(n)...)
	}
	readsNotes(t, "very many", string(row), list, int64(len(row)))
	readsNotes(t, "very many, the last one cut", string(row[:len(row)-1]), list[:len(list)-1], int64(len(row)-len(noteText(list[len(list)-1]))))
	readsNone(t, "very much junk", strings.Repeat("\x80", 1<<20))
	readsNone(t, "one of very many bytes", laidAsNote(strings.Repeat("\x02", 1<<20)))
}

func TestReplayedIsWhatTheDocumentTells(t *testing.T) {
	const a, b = 1000101, 1000102
	sure := func(text string, stamp int64) impl.Item { return itm(text, stamp, stamp, true) }
	for _, c := range []struct {
		why    string
		list   []impl.Note
		wanted impl.Shelf
		did    int64
	}{
		{"no Notes", nil, impl.Shelf{}, 0},
		{"a list without any", []impl.Note{}, impl.Shelf{}, 0},
		{"one that lays", []impl.Note{lay(4, "a")}, shelfOf(0, sure("a", 4)), 1},
		{"a stamp of 0", []impl.Note{lay(0, "a")}, shelfOf(0, sure("a", 0)), 1},
		{"the greatest stamp", []impl.Note{lay(impl.MaxRound, "a")}, shelfOf(0, sure("a", impl.MaxRound)), 1},
		{"an empty text", []impl.Note{lay(4, "")}, shelfOf(0, sure("", 4)), 1},
		{"the longest text", []impl.Note{lay(4, mixed(impl.MaxText, 1))}, shelfOf(0, sure(mixed(impl.MaxText, 1), 4)), 1},
		{"one that sweeps, by 0", []impl.Note{sweep(0)}, impl.Shelf{}, 1},
		{"one that sweeps", []impl.Note{sweep(7)}, impl.Shelf{Round: 7}, 1},
		{"the greatest round", []impl.Note{sweep(impl.MaxRound)}, impl.Shelf{Round: impl.MaxRound}, 1},
		{"two texts", []impl.Note{lay(4, "b"), lay(2, "a")}, shelfOf(0, sure("a", 2), sure("b", 4)), 2},
		{"a text that is laid twice, later", []impl.Note{lay(2, "a"), lay(4, "a")}, shelfOf(0, sure("a", 4)), 2},
		{"a text that is laid twice, earlier", []impl.Note{lay(4, "a"), lay(2, "a")}, shelfOf(0, sure("a", 4)), 2},
		{"a text that is laid twice, alike", []impl.Note{lay(4, "a"), lay(4, "a")}, shelfOf(0, sure("a", 4)), 2},
		{"it Clashes", []impl.Note{lay(4, "atuwtwkco"), lay(5, "qybuogwlf")}, shelfOf(0, sure("atuwtwkco", 4)), 1},
		{"it Clashes, and is laid when that is gone", []impl.Note{lay(4, "atuwtwkco"), lay(5, "qybuogwlf"), sweep(5), lay(5, "qybuogwlf"), lay(6, "atuwtwkco")}, shelfOf(5, sure("qybuogwlf", 5)), 3},
		{"a sweep below the Round", []impl.Note{sweep(5), lay(1, "a"), sweep(4)}, shelfOf(5, sure("a", 1)), 2},
		{"a sweep of the Round", []impl.Note{sweep(5), lay(1, "a"), lay(5, "b"), sweep(5)}, shelfOf(5, sure("b", 5)), 4},
		{"a sweep of one above the Round", []impl.Note{sweep(5), lay(5, "a"), lay(6, "b"), sweep(6)}, shelfOf(6, sure("b", 6)), 4},
		{"a sweep of the Round, none goes", []impl.Note{sweep(5), lay(5, "a"), sweep(5)}, shelfOf(5, sure("a", 5)), 3},
		{"marks that are there", []impl.Note{lay(1, "a"), lay(1, "b"), sweep(5, a)}, shelfOf(5, sure("a", 1)), 3},
		{"marks that are there and that are not", []impl.Note{lay(1, "a"), lay(1, "b"), sweep(5, 0, 7, b, impl.MaxNumber)}, shelfOf(5, sure("b", 1)), 3},
		{"marks that are not there", []impl.Note{lay(1, "a"), lay(1, "b"), sweep(5, 0, a+b)}, shelfOf(5), 3},
		{"all are marked", []impl.Note{lay(1, "a"), lay(1, "b"), sweep(5, a, b)}, shelfOf(5, sure("a", 1), sure("b", 1)), 3},
		{"below the Round nothing goes, whatever is marked", []impl.Note{sweep(5), lay(1, "a"), lay(1, "b"), sweep(4, a)}, shelfOf(5, sure("a", 1), sure("b", 1)), 3},
		{"the first sweep by the greatest round, all others nothing", []impl.Note{sweep(impl.MaxRound), sweep(5), sweep(0), sweep(impl.MaxRound - 1)}, impl.Shelf{Round: impl.MaxRound}, 1},
		{"the text of a sweep is laid", []impl.Note{lay(1, countedRow(a, b)), lay(1, "a")}, shelfOf(0, sure(countedRow(a, b), 1), sure("a", 1)), 2},
		{"what came with a stamp of 0 goes", []impl.Note{lay(0, "a"), sweep(0), sweep(1)}, shelfOf(1), 3},
		{"what was swept comes again", []impl.Note{lay(1, "a"), sweep(2), lay(2, "a")}, shelfOf(2, sure("a", 2)), 3},
	} {
		replays(t, c.why, c.list, c.wanted, c.did)
		replaysRight(t, c.why, c.list)
	}
}

func TestReplayedOfOneThatIsNoNote(t *testing.T) {
	right := []impl.Note{lay(4, "a"), sweep(5), lay(5, "b"), sweep(4, 1000102), lay(6, "cellar")}
	for _, w := range wrongNotes() {
		replays(t, w.why+", alone", []impl.Note{w.note}, impl.Shelf{}, 0)
		for _, place := range []int{0, 2, len(right)} {
			replays(t, w.why, slices.Insert(slices.Clone(right), place, w.note), impl.Shelf{}, 0)
		}
		replays(t, w.why+", twice", []impl.Note{w.note, lay(4, "a"), w.note}, impl.Shelf{}, 0)
	}
}

// Of each row of up to five Notes out of these.
func TestReplayedOfEachShortRow(t *testing.T) {
	some := []impl.Note{lay(0, "a"), lay(1, "a"), lay(2, "a"), lay(1, ""), lay(2, "korseta"), sweep(1), sweep(1, 1), sweep(2, 1000101), sweep(0), sweep(3, 1, 1000101), impl.Note{Kind: 3}}
	var on func([]impl.Note, int)
	on = func(list []impl.Note, more int) {
		replaysRight(t, "a short row", list)
		if more == 0 {
			return
		}
		for _, n := range some {
			on(append(slices.Clone(list), n), more-1)
		}
	}
	on(nil, 5)
}

// Chapter 13 does the same, one by one; and what was on a disk does the same as what was written.
func TestReplayedIsLaidAndSweptAndSynced(t *testing.T) {
	for _, list := range append(journals(), rightNotes()) {
		var s impl.Shelf
		did := int64(0)
		for _, n := range list {
			if n.Kind == impl.NoLay {
				after, _, code := impl.Laid(s, n.Text, n.A)
				if s = after; code == impl.PtNew || code == impl.PtAgain {
					did++
				}
				continue
			}
			marks, _ := impl.ReadNumbers(n.Text)
			after, went := impl.Swept(s, n.A, marks)
			if s = after; went != -1 {
				did++
			}
		}
		s = impl.Synced(s)
		replays(t, "a journal", list, s, did)
		disk, _ := diskOf(list)
		read, _ := impl.Notes(disk)
		replays(t, "a journal, read", read, s, did)
		if !impl.ShelfOk(s) || !sameShelf(impl.Crashed(s), s) {
			t.Fatalf("Replayed of %s leaves %s, which a crash changes", notesShown(list), shelfShown(s))
		}
	}
}

func TestReplayedOfMoreThanThereIsRoomFor(t *testing.T) {
	for _, size := range []int{6, impl.MaxText} {
		news := numbersOf(impl.MaxBlobs+2, size)
		var list []impl.Note
		for i, text := range news {
			list = append(list, lay(int64(i%7), text))
		}
		full := list[:impl.MaxBlobs]
		replaysRight(t, "just as many", full)
		s, did := impl.Replayed(full)
		if len(s.Items) != impl.MaxBlobs || did != impl.MaxBlobs {
			t.Fatalf("of %d texts %d are there, and %d Notes did something", len(full), len(s.Items), did)
		}
		replays(t, "two more", list, s, did)
		replaysRight(t, "again, when it is full", append(slices.Clone(list), lay(9, news[0]), lay(9, news[impl.MaxBlobs])))
		replaysRight(t, "swept, when it is full", append(slices.Clone(list), sweep(6, impl.Digest(news[0])), lay(9, news[impl.MaxBlobs]), sweep(5), lay(9, news[impl.MaxBlobs+1])))
		replaysRight(t, "a wrong one behind", append(slices.Clone(list), lay(-1, "a")))
	}
}

func TestReplayedOfVeryManyNotes(t *testing.T) {
	var list []impl.Note
	news := numbersOf(400, 20)
	for i := range 6040 {
		n := lay(int64(i/100), news[i*7%len(news)])
		if i%50 == 49 {
			marks := []int64{impl.Digest(news[i%400]), impl.Digest(news[i%300])}
			slices.Sort(marks)
			n = sweep(int64(max(0, i/100-i%7)), slices.Compact(marks)...)
		}
		list = append(list, n)
	}
	replaysRight(t, "very many", list)
	if s, did := impl.Replayed(list); len(s.Items) < 40 || s.Round < 50 || did < 3000 || did > int64(len(list)-500) {
		t.Errorf("of the test's own Notes %d did something, and left Round %d and %d Items", did, s.Round, len(s.Items))
	}
}

// overNotes are Notes whose texts lie on rows of bytes with room behind, and those rows with their pictures.
func overNotes(list []impl.Note) ([]impl.Note, [][]byte, [][]byte) {
	var notes []impl.Note
	var rows, pictures [][]byte
	for _, n := range list {
		row, picture := roomy([]byte(n.Text), '\x2a')
		notes = append(notes, impl.Note{Kind: n.Kind, A: n.A, Text: over(row)})
		rows, pictures = append(rows, row), append(pictures, picture)
	}
	return notes, rows, pictures
}

func TestJournalsLeaveTheirArguments(t *testing.T) {
	lists := append(journals(), rightNotes())
	for _, w := range wrongNotes() {
		lists = append(lists, []impl.Note{lay(4, "a"), w.note, sweep(5)})
	}
	for _, given := range lists {
		notes, rows, pictures := overNotes(given)
		list, picture := roomy(notes, lay(9, "filler"))
		for _, n := range list {
			impl.NoteOk(n)
			impl.ShowNote(n)
		}
		impl.Replayed(list)
		stays(t, "the Notes", list, picture)
		for i := range rows {
			stays(t, "a Note's text", rows[i], pictures[i])
		}
		disk, _ := diskOf(given)
		for _, s := range []string{disk, disk + "junk", disk[:len(disk)*2/3], "junk" + disk} {
			row, pictureOfDisk := roomy([]byte(s), '\x2a')
			impl.Notes(over(row))
			stays(t, "the disk", row, pictureOfDisk)
		}
	}
}

// A list of Notes may be a piece of a greater one, and so may a disk.
func TestJournalsDoNotLookIntoTheRoomBehind(t *testing.T) {
	list := []impl.Note{lay(4, "a"), lay(5, "b"), sweep(6, 1000101), {Kind: 3}}
	for size := range list {
		replaysRight(t, "others lie behind", list[:size])
	}
	disk, ends := diskOf(list[:3])
	for whole, end := range append([]int{0}, ends...) {
		readsNotes(t, "others lie behind", disk[:end], list[:whole], int64(end))
		readsNotes(t, "the rest of one lies behind", disk[:max(end-1, 0)], list[:max(whole-1, 0)], int64(append([]int{0, 0}, ends...)[whole]))
	}
}

// textsOfNotes are those of the Notes.
func textsOfNotes(list []impl.Note) []string {
	var texts []string
	for _, n := range list {
		texts = append(texts, n.Text)
	}
	return texts
}

func TestNotesAreNewMemory(t *testing.T) {
	for _, list := range append(journals(), rightNotes()) {
		disk, _ := diskOf(list)
		one, _ := impl.Notes(disk)
		other, _ := impl.Notes(disk)
		ownTexts(t, "Notes", textsOfNotes(one[:cap(one)]), []string{disk})
		ownTexts(t, "two times Notes", textsOfNotes(other), textsOfNotes(one))
		scribble(one, lay(42, "scribble"))
		if !slices.Equal(other, list) {
			t.Fatalf("two times Notes of %s share memory", notesShown(list))
		}
		readsNotes(t, "once more", disk, list, int64(len(disk)))
	}
}

func TestShowNoteIsNewMemory(t *testing.T) {
	for _, n := range rightNotes() {
		one, other := impl.ShowNote(n), impl.ShowNote(n)
		apart(t, "ShowNote and its text", one, n.Text)
		apart(t, "two times ShowNote", one, other)
	}
}

func TestReplayedIsNewMemory(t *testing.T) {
	for _, given := range append(journals(), rightNotes()) {
		list := slices.Clone(given)
		one, did := impl.Replayed(list)
		other, _ := impl.Replayed(list)
		wanted := slices.Clone(other.Items)
		owns(t, "Replayed", shelvedBlobs(impl.Shelf{Items: one.Items[:cap(one.Items)]}), textsOfNotes(list))
		owns(t, "two times Replayed", shelvedBlobs(other), textsIn(shelvedBlobs(one)))
		scribble(one.Items, itm("scribble", 42, 1, false))
		if !slices.Equal(list, given) || !slices.Equal(other.Items, wanted) {
			t.Fatalf("Replayed of %s shares memory with its argument or another answer", notesShown(given))
		}
		replays(t, "once more", list, other, did)
	}
}

// A text of one byte is made by its conversion, which lies where all such texts do.
func TestNotesOfOneByteAreNewMemory(t *testing.T) {
	for b := range 256 {
		n := lay(4, string([]byte{byte(b)}))
		disk, _ := diskOf([]impl.Note{n, n})
		one, _ := impl.Notes(disk)
		other, _ := impl.Notes(disk)
		ownTexts(t, "Notes", textsOfNotes(one), append(textsOfNotes(other), disk, n.Text))
		s, _ := impl.Replayed(one)
		owns(t, "Replayed", shelvedBlobs(s), append(textsOfNotes(one), n.Text))
	}
}

func TestJournalsKeepNothingFromCallToCall(t *testing.T) {
	list := []impl.Note{lay(4, "a"), lay(5, "b"), sweep(5)}
	disk, ends := diskOf(list)
	for range 3 {
		readsNotes(t, "all", disk, list, int64(len(disk)))
		readsNotes(t, "cut", disk[:len(disk)-1], list[:2], int64(ends[1]))
		readsNotes(t, "nothing", "", nil, 0)
		readsNotes(t, "the rest", disk[ends[0]:], list[1:], int64(len(disk)-ends[0]))
		replays(t, "all", list, shelfOf(5, itm("b", 5, 5, true)), 3)
		replays(t, "two", list[:2], shelfOf(0, itm("a", 4, 4, true), itm("b", 5, 5, true)), 2)
		replays(t, "none", nil, impl.Shelf{}, 0)
		replays(t, "no Note", []impl.Note{lay(4, "a"), {}}, impl.Shelf{}, 0)
	}
}
