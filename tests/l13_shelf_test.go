package tests

import (
	"math"
	"slices"
	"strconv"
	"strings"
	"testing"

	"loop.example/g00260/impl"
)

// outRounds are numbers that are no round, no stamp and nothing that was Kept.
var outRounds = []int64{-1, -2, -impl.MaxRound, math.MinInt32, -1 << 32, 1 - 1<<32, math.MinInt64 + 1, math.MinInt64, impl.MaxRound + 1, impl.MaxRound + 2, 2 * impl.MaxRound, math.MaxInt32, 1 << 32, 1<<32 + 1, 1<<32 + 5, math.MaxInt64 - 1, math.MaxInt64}

// edgeRounds are rounds of the two ends and between.
var edgeRounds = []int64{0, 1, 2, 3, 7, 1000, 65536, impl.MaxRound - 1, impl.MaxRound}

// edgeStamps are rounds and such as are none.
var edgeStamps = slices.Concat(edgeRounds, outRounds)

// itm is an Item of this text.
func itm(text string, stamp, kept int64, sure bool) impl.Item {
	return impl.Item{Blob: impl.Blob{Digest: impl.Digest(text), Text: text}, Stamp: stamp, Kept: kept, Sure: sure}
}

// shelfOf is a Shelf with these Items, by Digest.
func shelfOf(round int64, items ...impl.Item) impl.Shelf {
	list := slices.Clone(items)
	slices.SortFunc(list, func(a, b impl.Item) int { return int(a.Blob.Digest - b.Blob.Digest) })
	return impl.Shelf{Round: round, Items: list}
}

// shelvedBlobs are those of the Items, in order.
func shelvedBlobs(s impl.Shelf) []impl.Blob {
	var list []impl.Blob
	for _, i := range s.Items {
		list = append(list, i.Blob)
	}
	return list
}

// itemsOver are Items of these Blobs, of all kinds in turn, the first one of another kind for another seed.
func itemsOver(list []impl.Blob, seed int) []impl.Item {
	kinds := []impl.Item{{Stamp: 1}, {Stamp: 3, Kept: 3, Sure: true}, {Stamp: 5, Kept: 2}, {}, {Sure: true}, {Stamp: 4, Kept: 4}, {Stamp: impl.MaxRound, Kept: impl.MaxRound, Sure: true}, {Stamp: impl.MaxRound}, {Stamp: impl.MaxRound, Kept: 1}, {Stamp: 2, Kept: 2, Sure: true}, {Stamp: impl.MaxRound, Kept: impl.MaxRound}, {Stamp: 7}, {Stamp: 7, Kept: 6}}
	var items []impl.Item
	for i, b := range list {
		item := kinds[(i+seed)%len(kinds)]
		item.Blob = b
		items = append(items, item)
	}
	return items
}

// rightShelves are shelves of all shapes: ordinary ones and edges.
func rightShelves() []impl.Shelf {
	shelves := []impl.Shelf{{Round: impl.MaxRound, Items: itemsOver(greatestStore(), 3)}}
	return append(shelves, lightShelves()...)
}

// lightShelves are those of rightShelves that are gone through soon.
func lightShelves() []impl.Shelf {
	shelves := []impl.Shelf{{}, {Items: []impl.Item{}}, {Round: 1}, {Round: impl.MaxRound}}
	for i, list := range lightStores() {
		shelves = append(shelves, impl.Shelf{Round: edgeRounds[i%len(edgeRounds)], Items: itemsOver(list, i)})
		if len(list) < 20 {
			for seed := range 13 {
				shelves = append(shelves, impl.Shelf{Round: int64(seed), Items: itemsOver(list, seed)})
			}
		}
	}
	return shelves
}

// A wrongShelf is one that is not right.
type wrongShelf struct {
	why   string
	shelf impl.Shelf
}

// withItem is the Shelf with another Item at this place.
func withItem(s impl.Shelf, at int, item impl.Item) impl.Shelf {
	items := slices.Clone(s.Items)
	items[at] = item
	return impl.Shelf{Round: s.Round, Items: items}
}

// spoiledShelves are made of a right Shelf by one change to the Item at this place.
func spoiledShelves(s impl.Shelf, at int) []wrongShelf {
	b := s.Items[at].Blob
	var wrong []wrongShelf
	with := func(why string, stamp, kept int64, sure bool) {
		wrong = append(wrong, wrongShelf{why, withItem(s, at, impl.Item{Blob: b, Stamp: stamp, Kept: kept, Sure: sure})})
	}
	for _, n := range outRounds {
		with("a Stamp is out of range", n, 0, false)
		with("a Kept is out of range", 5, n, false)
		with("a Kept is out of range, below the greatest Stamp", impl.MaxRound, n, false)
		for _, sure := range []bool{false, true} {
			with("a Stamp and a Kept are out of range", n, n, sure)
		}
	}
	for _, n := range edgeRounds {
		with("Kept is one above Stamp", n, n+1, false)
		with("Sure, and Kept is one above Stamp", n, n+1, true)
		if n > 0 {
			with("Sure, and Kept is one below Stamp", n, n-1, true)
			with("Sure, and Kept is 0, unlike Stamp", n, 0, true)
			with("Stamp is 0, Kept is not", 0, n, false)
			with("Sure, Stamp is 0, Kept is not", 0, n, true)
		}
	}
	return wrong
}

// wrongShelves are wrong by all there is to be wrong.
func wrongShelves() []wrongShelf {
	var wrong []wrongShelf
	for _, items := range [][]impl.Item{nil, itemsOver(blobsOf("one"), 1), itemsOver(blobsOf("a", "b", "c", ""), 0), itemsOver(fullStore(), 2)} {
		for _, n := range outRounds {
			wrong = append(wrong, wrongShelf{"the Round is out of range", impl.Shelf{Round: n, Items: items}})
		}
		for at := range items {
			if len(items) < 10 || at == 0 || at == 150 || at == impl.MaxBlobs-1 {
				wrong = append(wrong, spoiledShelves(impl.Shelf{Round: 3, Items: items}, at)...)
			}
		}
	}
	for i, w := range wrongStores() {
		wrong = append(wrong, wrongShelf{w.why, impl.Shelf{Round: edgeRounds[i%len(edgeRounds)], Items: itemsOver(w.list, i)}})
	}
	return append(wrong,
		wrongShelf{"the zero Item", impl.Shelf{Items: []impl.Item{{}}}},
		wrongShelf{"a Round and a Stamp are out of range", impl.Shelf{Round: -1, Items: []impl.Item{itm("one", -1, 0, false)}}},
		wrongShelf{"a Round and a Digest are wrong", impl.Shelf{Round: -1, Items: []impl.Item{{}}}},
		wrongShelf{"very many zero Items", impl.Shelf{Items: make([]impl.Item, 100000)}},
	)
}

// someWrongShelves are those of wrongShelves that are short, and some of the others.
func someWrongShelves() []wrongShelf {
	var some []wrongShelf
	for i, w := range wrongShelves() {
		if len(w.shelf.Items) < 10 || i%9 == 0 {
			some = append(some, w)
		}
	}
	return some
}

func isRound(n int64) bool { return n >= 0 && n <= impl.MaxRound }

// shelfRight tells whether a Shelf is as the chapter tells, word by word; that its Blobs are a store is asked of StoreOk.
func shelfRight(s impl.Shelf) bool {
	right := isRound(s.Round) && impl.StoreOk(shelvedBlobs(s))
	for _, i := range s.Items {
		right = right && isRound(i.Stamp) && isRound(i.Kept)
		right = right && !(i.Kept > i.Stamp)
		right = right && !(i.Sure && i.Kept != i.Stamp)
	}
	return right
}

// laidOf tells Laid of a right Shelf, one by one.
func laidOf(s impl.Shelf, text string, stamp int64) (impl.Shelf, int64, int64) {
	_, digest, code := putOf(shelvedBlobs(s), text)
	if (code == impl.PtNew || code == impl.PtAgain) && !isRound(stamp) {
		return s, 0, impl.PtBad
	}
	switch code {
	case impl.PtNew:
		return shelfOf(s.Round, append(slices.Clone(s.Items), impl.Item{Blob: impl.Blob{Digest: digest, Text: text}, Stamp: stamp})...), digest, code
	case impl.PtAgain:
		items := slices.Clone(s.Items)
		for i, item := range items {
			if item.Blob.Digest != digest {
				continue
			}
			if item.Stamp < stamp {
				items[i].Stamp = stamp
			}
			if stamp > item.Kept {
				items[i].Sure = false
			}
		}
		return impl.Shelf{Round: s.Round, Items: items}, digest, code
	}
	return s, 0, code
}

// syncedOf tells Synced of a right Shelf.
func syncedOf(s impl.Shelf) impl.Shelf {
	other := impl.Shelf{Round: s.Round}
	for _, i := range s.Items {
		other.Items = append(other.Items, impl.Item{Blob: i.Blob, Stamp: i.Stamp, Kept: i.Stamp, Sure: true})
	}
	return other
}

// crashedOf tells Crashed of a right Shelf.
func crashedOf(s impl.Shelf) impl.Shelf {
	other := impl.Shelf{Round: s.Round}
	for _, i := range s.Items {
		if i.Kept > 0 || i.Sure {
			other.Items = append(other.Items, impl.Item{Blob: i.Blob, Stamp: i.Kept, Kept: i.Kept, Sure: true})
		}
	}
	return other
}

// sweptOf tells Swept of a right Shelf.
func sweptOf(s impl.Shelf, round int64, marks []int64) (impl.Shelf, int64) {
	if !isRound(round) || round < s.Round {
		return s, -1
	}
	other, went := impl.Shelf{Round: round}, int64(0)
	for _, i := range s.Items {
		if i.Stamp >= round || slices.Contains(marks, i.Blob.Digest) {
			other.Items = append(other.Items, i)
		} else {
			went++
		}
	}
	return other, went
}

func sameShelf(a, b impl.Shelf) bool {
	return a.Round == b.Round && slices.Equal(a.Items, b.Items)
}

// shelfShown are the first Items of a Shelf, and how many it has, for one to read.
func shelfShown(s impl.Shelf) string {
	text := "Round " + strconv.FormatInt(s.Round, 10) + ", " + strconv.Itoa(len(s.Items)) + " Items"
	for _, i := range s.Items[:min(len(s.Items), 8)] {
		text += " " + strconv.Quote(i.Blob.Text[:min(len(i.Blob.Text), 30)])
		for _, n := range []int64{i.Stamp, i.Kept} {
			text += " " + strconv.FormatInt(n, 10)
		}
		text += " " + strconv.FormatBool(i.Sure)
	}
	return text
}

// lays fails where Laid is not this. It answers the Shelf that Laid has told.
func lays(t *testing.T, why string, s impl.Shelf, text string, stamp int64, wanted impl.Shelf, digest, code int64) impl.Shelf {
	t.Helper()
	got, d, k := impl.Laid(s, text, stamp)
	if d != digest || k != code {
		t.Fatalf("%s: Laid of %d bytes, %.40q, with %d, on %s is %d, %d, not %d, %d", why, len(text), text, stamp, shelfShown(s), d, k, digest, code)
	}
	if !sameShelf(got, wanted) {
		t.Fatalf("%s: Laid of %d bytes, %.40q, with %d, on %s makes %s, not %s", why, len(text), text, stamp, shelfShown(s), shelfShown(got), shelfShown(wanted))
	}
	return got
}

// laysRight is lays where the document's words are followed one by one.
func laysRight(t *testing.T, s impl.Shelf, text string, stamp int64) impl.Shelf {
	t.Helper()
	wanted, digest, code := laidOf(s, text, stamp)
	return lays(t, "a shelf", s, text, stamp, wanted, digest, code)
}

// syncs fails where Synced is not this.
func syncs(t *testing.T, why string, s, wanted impl.Shelf) impl.Shelf {
	t.Helper()
	got := impl.Synced(s)
	if !sameShelf(got, wanted) {
		t.Fatalf("%s: Synced of %s is %s, not %s", why, shelfShown(s), shelfShown(got), shelfShown(wanted))
	}
	return got
}

// crashes fails where Crashed is not this.
func crashes(t *testing.T, why string, s, wanted impl.Shelf) impl.Shelf {
	t.Helper()
	got := impl.Crashed(s)
	if !sameShelf(got, wanted) {
		t.Fatalf("%s: Crashed of %s is %s, not %s", why, shelfShown(s), shelfShown(got), shelfShown(wanted))
	}
	return got
}

// sweeps fails where Swept is not this.
func sweeps(t *testing.T, why string, s impl.Shelf, round int64, marks []int64, wanted impl.Shelf, went int64) impl.Shelf {
	t.Helper()
	got, n := impl.Swept(s, round, marks)
	if n != went || !sameShelf(got, wanted) {
		t.Fatalf("%s: Swept of %s by %d and %.10v is %s and %d, not %s and %d", why, shelfShown(s), round, marks, shelfShown(got), n, shelfShown(wanted), went)
	}
	return got
}

// sweepsRight is sweeps where the document's words are followed one by one.
func sweepsRight(t *testing.T, s impl.Shelf, round int64, marks []int64) impl.Shelf {
	t.Helper()
	wanted, went := sweptOf(s, round, marks)
	return sweeps(t, "a shelf", s, round, marks, wanted, went)
}

// fetches fails where Fetched is not this text and flag.
func fetches(t *testing.T, why string, s impl.Shelf, digest int64, wanted string, well bool) {
	t.Helper()
	if text, is := impl.Fetched(s, digest); text != wanted || is != well {
		t.Fatalf("%s: Fetched of %d from %s is %.40q, %v, not %.40q, %v", why, digest, shelfShown(s), text, is, wanted, well)
	}
}

// newsFor are texts for a Shelf: new ones, such as are there, such as Clash, and too long ones.
func newsFor(s impl.Shelf) []string {
	news := []string{"", "a", "one", "a new text", "korseta", "\x00\xff", mixed(impl.MaxText, 1), mixed(impl.MaxText+1, 5), longAs("one"), longAs("")}
	for i, item := range s.Items {
		if i < 4 || i == len(s.Items)/2 || i == len(s.Items)-1 {
			news = append(news, item.Blob.Text, sevenRound+item.Blob.Text, longAs(item.Blob.Text))
		}
	}
	return news
}

// markLists are marks for a Shelf: none, all, some, twice, in any order, and such as are not there.
func markLists(s impl.Shelf) [][]int64 {
	all := digestsOf(shelvedBlobs(s))
	mixedUp := shuffled(all, 7)
	lists := [][]int64{nil, {}, {5, -5, 5}, {0, math.MinInt64, math.MaxInt64}, all, reversed(all), append(slices.Clone(all), all...), mixedUp[:len(all)/2], append(slices.Clone(mixedUp[len(all)/2:]), 0, -1, 5, greatestDigest), strangers(shelvedBlobs(s))}
	for i := range min(len(all), 4) {
		lists = append(lists, all[i:i+1], []int64{all[i], 9, all[i]}, slices.Delete(slices.Clone(all), i, i+1))
	}
	return lists
}

// sweepRounds are rounds about that of a Shelf and about its Stamps, and the edges.
func sweepRounds(s impl.Shelf) []int64 {
	rounds := []int64{s.Round - 1, s.Round, s.Round + 1}
	for i, item := range s.Items {
		if i < 13 {
			rounds = append(rounds, item.Stamp-1, item.Stamp, item.Stamp+1, item.Kept, item.Kept+1)
		}
	}
	slices.Sort(rounds)
	return append(slices.Compact(rounds), -2, math.MinInt64, impl.MaxRound-1, impl.MaxRound, impl.MaxRound+1, impl.MaxRound+2, 1<<32+s.Round, math.MaxInt64)
}

func TestTheLimitOfShelves(t *testing.T) {
	if impl.MaxRound != 100000 {
		t.Error("the limit is not the document's")
	}
}

func TestShelfOkOfShelves(t *testing.T) {
	for i, s := range rightShelves() {
		if !impl.ShelfOk(s) {
			t.Errorf("number %d, a right one, is not ShelfOk: %s", i, shelfShown(s))
		}
		for _, part := range [][]impl.Item{s.Items[:len(s.Items)/2], s.Items[len(s.Items)/2:]} {
			if !impl.ShelfOk(impl.Shelf{Round: s.Round, Items: part}) {
				t.Errorf("number %d: with some of its Items, in a row, it is not ShelfOk", i)
			}
		}
	}
}

func TestShelfOkOfWhatIsNotRight(t *testing.T) {
	for _, w := range wrongShelves() {
		if impl.ShelfOk(w.shelf) {
			t.Errorf("%s: ShelfOk is true of %s", w.why, shelfShown(w.shelf))
		}
	}
}

// Of one Item and of one among others, with each Stamp, each Kept, Sure or not, on a Shelf of each Round.
func TestShelfOkAtTheEdges(t *testing.T) {
	for _, stamp := range edgeStamps {
		for _, kept := range edgeStamps {
			for _, sure := range []bool{false, true} {
				item := itm("b", stamp, kept, sure)
				right := isRound(stamp) && isRound(kept) && kept <= stamp && (kept == stamp || !sure)
				for _, items := range [][]impl.Item{{item}, {itm("a", 5, 5, true), item, itm("c", 5, 0, false)}} {
					for _, round := range edgeStamps {
						s := impl.Shelf{Round: round, Items: items}
						if wanted := right && isRound(round); impl.ShelfOk(s) != wanted {
							t.Fatalf("ShelfOk of %s is %v", shelfShown(s), !wanted)
						}
					}
				}
			}
		}
	}
}

func TestEachFunctionOfWhatIsNoRightShelf(t *testing.T) {
	for _, w := range wrongShelves() {
		s := w.shelf
		news := []string{"", "a", "one", "a new text", mixed(impl.MaxText+1, 5)}
		some := []int64{0, 1, -1, 7, 1000101}
		for i, item := range s.Items {
			if i < 2 || i == len(s.Items)-1 {
				news, some = append(news, item.Blob.Text), append(some, item.Blob.Digest)
			}
		}
		for _, text := range news {
			for _, stamp := range []int64{-1, 0, 5, impl.MaxRound, impl.MaxRound + 1} {
				lays(t, w.why, s, text, stamp, impl.Shelf{}, 0, impl.PtBad)
			}
		}
		syncs(t, w.why, s, impl.Shelf{})
		crashes(t, w.why, s, impl.Shelf{})
		for _, round := range []int64{s.Round, -1, 0, 5, impl.MaxRound, impl.MaxRound + 1} {
			sweeps(t, w.why, s, round, nil, impl.Shelf{}, -1)
			sweeps(t, w.why, s, round, some, impl.Shelf{}, -1)
		}
		for _, d := range some {
			fetches(t, w.why, s, d, "", false)
		}
	}
}

func TestLaidIsWhatTheDocumentTells(t *testing.T) {
	const a, b, one, clash = 1000101, 1000102, 1970437566, 1040202104
	two := shelfOf(3, itm("a", 4, 4, true), itm("b", 7, 2, false))
	with := func(stamp, kept int64, sure bool) impl.Shelf {
		return shelfOf(3, itm("a", 4, 4, true), itm("b", stamp, kept, sure))
	}
	for _, c := range []struct {
		why          string
		shelf        impl.Shelf
		text         string
		stamp        int64
		wanted       impl.Shelf
		digest, code int64
	}{
		{"the first one", impl.Shelf{}, "one", 2, shelfOf(0, itm("one", 2, 0, false)), one, impl.PtNew},
		{"a stamp of 0", impl.Shelf{}, "one", 0, shelfOf(0, itm("one", 0, 0, false)), one, impl.PtNew},
		{"the greatest stamp", impl.Shelf{}, "one", impl.MaxRound, shelfOf(0, itm("one", impl.MaxRound, 0, false)), one, impl.PtNew},
		{"an empty text", impl.Shelf{}, "", 1, shelfOf(0, itm("", 1, 0, false)), 1, impl.PtNew},
		{"the Round stays", impl.Shelf{Round: 9}, "one", 2, shelfOf(9, itm("one", 2, 0, false)), one, impl.PtNew},
		{"behind others", two, "one", 1, shelfOf(3, itm("a", 4, 4, true), itm("b", 7, 2, false), itm("one", 1, 0, false)), one, impl.PtNew},
		{"ahead of others", two, "", 1, shelfOf(3, itm("", 1, 0, false), itm("a", 4, 4, true), itm("b", 7, 2, false)), 1, impl.PtNew},
		{"between others", shelfOf(3, itm("a", 4, 4, true), itm("one", 7, 2, false)), "b", 1, shelfOf(3, itm("a", 4, 4, true), itm("b", 1, 0, false), itm("one", 7, 2, false)), b, impl.PtNew},
		{"the longest text", impl.Shelf{}, mixed(impl.MaxText, 1), 1, shelfOf(0, itm(mixed(impl.MaxText, 1), 1, 0, false)), impl.Digest(mixed(impl.MaxText, 1)), impl.PtNew},
		{"again, below Kept", two, "b", 1, two, b, impl.PtAgain},
		{"again, with Kept", two, "b", 2, two, b, impl.PtAgain},
		{"again, above Kept, below Stamp", two, "b", 3, two, b, impl.PtAgain},
		{"again, one below Stamp", two, "b", 6, two, b, impl.PtAgain},
		{"again, with its Stamp", two, "b", 7, two, b, impl.PtAgain},
		{"again, one above Stamp", two, "b", 8, with(8, 2, false), b, impl.PtAgain},
		{"again, with the greatest", two, "b", impl.MaxRound, with(impl.MaxRound, 2, false), b, impl.PtAgain},
		{"again, with 0", two, "b", 0, two, b, impl.PtAgain},
		{"again, Sure, below Stamp", two, "a", 3, two, a, impl.PtAgain},
		{"again, Sure, with its Stamp", two, "a", 4, two, a, impl.PtAgain},
		{"again, Sure, one above", two, "a", 5, shelfOf(3, itm("a", 5, 4, false), itm("b", 7, 2, false)), a, impl.PtAgain},
		{"again, not Sure, though Kept is Stamp", with(7, 7, false), "b", 7, with(7, 7, false), b, impl.PtAgain},
		{"again, Sure with 0, with 0", with(0, 0, true), "b", 0, with(0, 0, true), b, impl.PtAgain},
		{"again, Sure with 0, with 1", with(0, 0, true), "b", 1, with(1, 0, false), b, impl.PtAgain},
		{"a stamp of -1, new", two, "one", -1, two, 0, impl.PtBad},
		{"a stamp above, new", two, "one", impl.MaxRound + 1, two, 0, impl.PtBad},
		{"a stamp of -1, again", two, "b", -1, two, 0, impl.PtBad},
		{"a stamp above, again", two, "b", impl.MaxRound + 1, two, 0, impl.PtBad},
		{"the greatest number, again", two, "a", math.MaxInt64, two, 0, impl.PtBad},
		{"the least number, again", two, "a", math.MinInt64, two, 0, impl.PtBad},
		{"too long", two, mixed(impl.MaxText+1, 5), 5, two, 0, impl.PtBad},
		{"too long, and the stamp is wrong", two, mixed(impl.MaxText+1, 5), -1, two, 0, impl.PtBad},
		{"it Clashes", shelfOf(1, itm("atuwtwkco", 3, 3, true)), "qybuogwlf", 5, shelfOf(1, itm("atuwtwkco", 3, 3, true)), 0, impl.PtClash},
		{"it Clashes, the other way round", shelfOf(1, itm("qybuogwlf", 3, 0, false)), "atuwtwkco", 5, shelfOf(1, itm("qybuogwlf", 3, 0, false)), 0, impl.PtClash},
		{"it Clashes, and the stamp is wrong", shelfOf(1, itm("atuwtwkco", 3, 3, true)), "qybuogwlf", -1, shelfOf(1, itm("atuwtwkco", 3, 3, true)), 0, impl.PtClash},
		{"it Clashes, and is too long, and the stamp is wrong", two, longAs("b"), impl.MaxRound + 1, two, 0, impl.PtClash},
	} {
		lays(t, c.why, c.shelf, c.text, c.stamp, c.wanted, c.digest, c.code)
	}
	if impl.Digest("atuwtwkco") != clash {
		t.Error("the test's own texts are not as it thinks")
	}
}

func TestLaidOfAFullShelf(t *testing.T) {
	full := impl.Shelf{Round: 2, Items: itemsOver(fullStore(), 0)}
	first, last := full.Items[0].Blob, full.Items[impl.MaxBlobs-1].Blob
	for _, stamp := range edgeStamps {
		lays(t, "full", full, "new", stamp, full, 0, impl.PtFull)
		lays(t, "full, and too long", full, mixed(impl.MaxText+1, 5), stamp, full, 0, impl.PtFull)
		lays(t, "full, and it Clashes", full, sevenRound+first.Text, stamp, full, 0, impl.PtClash)
		lays(t, "full, it Clashes and is too long", full, longAs(last.Text), stamp, full, 0, impl.PtClash)
		laysRight(t, full, first.Text, stamp)
		laysRight(t, full, last.Text, stamp)
	}
	for at := range impl.MaxBlobs {
		less := impl.Shelf{Round: 2, Items: slices.Delete(slices.Clone(full.Items), at, at+1)}
		with := laysRight(t, less, full.Items[at].Blob.Text, 5)
		if len(with.Items) != impl.MaxBlobs || with.Items[at].Blob != full.Items[at].Blob {
			t.Fatalf("the last one that there is room for does not lie at %d", at)
		}
		lays(t, "the room is gone", with, "new", 5, with, 0, impl.PtFull)
	}
}

// Of a text that is there, with each Stamp and Kept, Sure and not, by each stamp.
func TestLaidAgainAtTheEdges(t *testing.T) {
	for _, stamp := range edgeRounds {
		for _, kept := range edgeRounds {
			for _, sure := range []bool{false, true} {
				s := shelfOf(3, itm("a", 5, 5, true), itm("b", stamp, kept, sure), itm("c", 5, 0, false))
				if !shelfRight(s) {
					continue
				}
				for _, fresh := range slices.Concat(edgeStamps, []int64{stamp - 1, stamp + 1, kept - 1, kept + 1, (stamp + kept) / 2}) {
					laysRight(t, s, "b", fresh)
				}
			}
		}
	}
}

func TestLaidOfEachShelf(t *testing.T) {
	for _, s := range lightShelves() {
		for _, text := range newsFor(s) {
			for _, stamp := range []int64{-1, 0, 1, 2, 3, 6, impl.MaxRound, impl.MaxRound + 1} {
				if got := laysRight(t, s, text, stamp); !shelfRight(got) {
					t.Fatalf("Laid of %.40q with %d on %s is no right Shelf: %s", text, stamp, shelfShown(s), shelfShown(got))
				}
			}
		}
	}
}

func TestSyncedIsWhatTheDocumentTells(t *testing.T) {
	for _, c := range []struct {
		why           string
		shelf, wanted impl.Shelf
	}{
		{"the zero Shelf", impl.Shelf{}, impl.Shelf{}},
		{"no Items", impl.Shelf{Round: impl.MaxRound}, impl.Shelf{Round: impl.MaxRound}},
		{"a new one", shelfOf(1, itm("a", 3, 0, false)), shelfOf(1, itm("a", 3, 3, true))},
		{"not Sure any more", shelfOf(1, itm("a", 3, 2, false)), shelfOf(1, itm("a", 3, 3, true))},
		{"Sure", shelfOf(1, itm("a", 3, 3, true)), shelfOf(1, itm("a", 3, 3, true))},
		{"not Sure, though Kept is Stamp", shelfOf(1, itm("a", 3, 3, false)), shelfOf(1, itm("a", 3, 3, true))},
		{"a Stamp of 0", shelfOf(1, itm("a", 0, 0, false)), shelfOf(1, itm("a", 0, 0, true))},
		{"the greatest Stamp", shelfOf(1, itm("a", impl.MaxRound, 0, false)), shelfOf(1, itm("a", impl.MaxRound, impl.MaxRound, true))},
		{"all of some", shelfOf(9, itm("a", 3, 0, false), itm("b", 4, 4, true), itm("", 5, 2, false)), shelfOf(9, itm("a", 3, 3, true), itm("b", 4, 4, true), itm("", 5, 5, true))},
	} {
		syncs(t, c.why, c.shelf, c.wanted)
	}
	for _, s := range rightShelves() {
		if got := syncs(t, "a shelf", s, syncedOf(s)); !shelfRight(got) || !sameShelf(impl.Synced(got), got) {
			t.Fatalf("Synced of %s is no right Shelf, or more is done when it is Synced again", shelfShown(s))
		}
	}
}

func TestCrashedIsWhatTheDocumentTells(t *testing.T) {
	for _, c := range []struct {
		why           string
		shelf, wanted impl.Shelf
	}{
		{"the zero Shelf", impl.Shelf{}, impl.Shelf{}},
		{"no Items: the Round stays", impl.Shelf{Round: impl.MaxRound}, impl.Shelf{Round: impl.MaxRound}},
		{"never Sure", shelfOf(4, itm("a", 3, 0, false)), shelfOf(4)},
		{"never Sure, a Stamp of 0", shelfOf(4, itm("a", 0, 0, false)), shelfOf(4)},
		{"never Sure, the greatest Stamp", shelfOf(4, itm("a", impl.MaxRound, 0, false)), shelfOf(4)},
		{"not Sure any more", shelfOf(4, itm("a", 3, 1, false)), shelfOf(4, itm("a", 1, 1, true))},
		{"not Sure, though Kept is Stamp", shelfOf(4, itm("a", 3, 3, false)), shelfOf(4, itm("a", 3, 3, true))},
		{"the greatest, not Sure any more", shelfOf(4, itm("a", impl.MaxRound, impl.MaxRound-1, false)), shelfOf(4, itm("a", impl.MaxRound-1, impl.MaxRound-1, true))},
		{"Sure", shelfOf(4, itm("a", 3, 3, true)), shelfOf(4, itm("a", 3, 3, true))},
		{"Sure, a Stamp of 0", shelfOf(4, itm("a", 0, 0, true)), shelfOf(4, itm("a", 0, 0, true))},
		{"Sure, the greatest Stamp", shelfOf(4, itm("a", impl.MaxRound, impl.MaxRound, true)), shelfOf(4, itm("a", impl.MaxRound, impl.MaxRound, true))},
		{"some go", shelfOf(9, itm("a", 3, 0, false), itm("b", 4, 4, true), itm("c", 4, 0, false), itm("", 5, 2, false), itm("one", 6, 0, false)), shelfOf(9, itm("b", 4, 4, true), itm("", 2, 2, true))},
	} {
		crashes(t, c.why, c.shelf, c.wanted)
	}
	for _, s := range rightShelves() {
		crashes(t, "a shelf", s, crashedOf(s))
	}
}

func TestSweptIsWhatTheDocumentTells(t *testing.T) {
	const a, b, c = 1000101, 1000102, 1000103
	three := shelfOf(3, itm("a", 3, 3, true), itm("b", 5, 0, false), itm("c", 7, 2, false))
	left := func(round int64, texts ...string) impl.Shelf {
		s := impl.Shelf{Round: round}
		for _, i := range three.Items {
			if slices.Contains(texts, i.Blob.Text) {
				s.Items = append(s.Items, i)
			}
		}
		return s
	}
	for _, k := range []struct {
		why    string
		round  int64
		marks  []int64
		wanted impl.Shelf
		went   int64
	}{
		{"one below Round", 2, nil, three, -1},
		{"below 0", -1, nil, three, -1},
		{"the least number", math.MinInt64, nil, three, -1},
		{"one too great", impl.MaxRound + 1, nil, three, -1},
		{"the greatest number", math.MaxInt64, []int64{a}, three, -1},
		{"by Round itself, which is the least Stamp", 3, nil, three, 0},
		{"one above the least Stamp", 4, nil, left(4, "b", "c"), 1},
		{"at a Stamp", 5, nil, left(5, "b", "c"), 1},
		{"one above it", 6, nil, left(6, "c"), 2},
		{"at the last Stamp", 7, nil, left(7, "c"), 2},
		{"above all Stamps", 8, nil, left(8), 3},
		{"the greatest round", impl.MaxRound, nil, left(impl.MaxRound), 3},
		{"one is marked", 8, []int64{b}, left(8, "b"), 2},
		{"two are marked, in any order, twice", 8, []int64{c, a, c}, left(8, "a", "c"), 1},
		{"all are marked", 8, []int64{a, b, c}, left(8, "a", "b", "c"), 0},
		{"what is marked came since", 6, []int64{c}, left(6, "c"), 2},
		{"marks that are not there", 8, []int64{0, -1, 5, math.MaxInt64, b, math.MinInt64}, left(8, "b"), 2},
		{"no marks, none goes", 3, []int64{}, three, 0},
	} {
		sweeps(t, k.why, three, k.round, k.marks, k.wanted, k.went)
	}
	sweeps(t, "the zero Shelf", impl.Shelf{}, 0, nil, impl.Shelf{}, 0)
	sweeps(t, "the zero Shelf, a round of 5", impl.Shelf{}, 5, nil, impl.Shelf{Round: 5}, 0)
	sweeps(t, "the greatest Round", impl.Shelf{Round: impl.MaxRound}, impl.MaxRound, nil, impl.Shelf{Round: impl.MaxRound}, 0)
	sweeps(t, "a Stamp of 0, a round of 0", shelfOf(0, itm("a", 0, 0, true)), 0, nil, shelfOf(0, itm("a", 0, 0, true)), 0)
	sweeps(t, "a Stamp of 0, a round of 1", shelfOf(0, itm("a", 0, 0, true)), 1, nil, impl.Shelf{Round: 1}, 1)
	sweeps(t, "the greatest Stamp stays", shelfOf(0, itm("a", impl.MaxRound, 0, false)), impl.MaxRound, nil, shelfOf(impl.MaxRound, itm("a", impl.MaxRound, 0, false)), 0)
	sweeps(t, "it is the Stamp, not what was Kept, that counts", shelfOf(0, itm("a", 6, 2, false)), 6, nil, shelfOf(6, itm("a", 6, 2, false)), 0)
}

func TestSweptOfEachShelf(t *testing.T) {
	for _, s := range rightShelves() {
		lists, rounds := markLists(s), sweepRounds(s)
		if len(s.Items) > 20 {
			rounds = []int64{s.Round - 1, s.Round, s.Round + 1, 3, 4, impl.MaxRound, impl.MaxRound + 1}
		}
		for _, round := range rounds {
			for _, marks := range lists {
				sweepsRight(t, s, round, marks)
			}
		}
	}
}

func TestFetchedIsAsGet(t *testing.T) {
	for _, s := range rightShelves() {
		for i, item := range s.Items {
			if i < 20 || i%50 == 0 || i == len(s.Items)-1 {
				fetches(t, "it is there", s, item.Blob.Digest, item.Blob.Text, true)
			}
		}
		for _, d := range strangers(shelvedBlobs(s)) {
			fetches(t, "it is not there", s, d, "", false)
		}
	}
	s := shelfOf(1, itm("a", 3, 0, false), itm("", 4, 4, true))
	fetches(t, "not Sure", s, 1000101, "a", true)
	fetches(t, "an empty text", s, 1, "", true)
	fetches(t, "a neighbour", s, 1000102, "", false)
	fetches(t, "0", s, 0, "", false)
}

// crashKeeps fails where a crash takes what is Sure, leaves what never was, or leaves it otherwise than Sure with what was Kept.
func crashKeeps(t *testing.T, s impl.Shelf) {
	t.Helper()
	left := impl.Crashed(s)
	place := map[int64]int{}
	for at, i := range left.Items {
		place[i.Blob.Digest] = at
	}
	for _, i := range s.Items {
		at, stays := place[i.Blob.Digest]
		if stays != (i.Sure || i.Kept > 0) {
			t.Fatalf("a crash of %s: %.30q stays is %v", shelfShown(s), i.Blob.Text, stays)
		}
		if stays && left.Items[at] != (impl.Item{Blob: i.Blob, Stamp: i.Kept, Kept: i.Kept, Sure: true}) {
			t.Fatalf("a crash of %s leaves %s", shelfShown(s), shelfShown(left))
		}
		if i.Sure && left.Items[at] != i {
			t.Fatalf("a crash of %s changes what is Sure", shelfShown(s))
		}
	}
	if !impl.ShelfOk(left) || left.Round != s.Round || len(place) != len(left.Items) || !sameShelf(impl.Crashed(left), left) || !sameShelf(impl.Synced(left), left) {
		t.Fatalf("a crash of %s leaves %s", shelfShown(s), shelfShown(left))
	}
}

// sweepKeeps fails where a sweep takes what is marked or came since, or leaves anything else.
func sweepKeeps(t *testing.T, s impl.Shelf, round int64, marks []int64) {
	t.Helper()
	left, went := impl.Swept(s, round, marks)
	if went < 0 {
		return
	}
	var stay []impl.Item
	for _, i := range s.Items {
		if slices.Contains(marks, i.Blob.Digest) || i.Stamp >= round {
			stay = append(stay, i)
		}
	}
	if !slices.Equal(left.Items, stay) || went != int64(len(s.Items)-len(stay)) || left.Round != round || !impl.ShelfOk(left) {
		t.Fatalf("a sweep of %s by %d and %.10v leaves %s, and %d went", shelfShown(s), round, marks, shelfShown(left), went)
	}
	if again, more := impl.Swept(left, round, marks); more != 0 || !sameShelf(again, left) {
		t.Fatalf("a sweep of %s by %d and %.10v, done once more, takes %d", shelfShown(s), round, marks, more)
	}
}

func TestACrashAndASweepTakeWhatTheyMay(t *testing.T) {
	for _, s := range lightShelves() {
		crashKeeps(t, s)
		crashKeeps(t, impl.Synced(s))
		for i, marks := range markLists(s) {
			for _, round := range []int64{s.Round - 1, s.Round, s.Round + 1, int64(i), 3, 7, impl.MaxRound, impl.MaxRound + 1} {
				sweepKeeps(t, s, round, marks)
			}
		}
	}
}

// A deed is something that is done to a Shelf.
type deed struct {
	kind  int
	text  string
	round int64
	marks []int64
}

// done does a deed, fails where the Shelf that comes is not what the document's words make, and answers it.
func (d deed) done(t *testing.T, s impl.Shelf) impl.Shelf {
	t.Helper()
	switch d.kind {
	case 0:
		return laysRight(t, s, d.text, d.round)
	case 1:
		return syncs(t, "in a row", s, syncedOf(s))
	case 2:
		return crashes(t, "in a row", s, crashedOf(s))
	}
	return sweepsRight(t, s, d.round, d.marks)
}

// Whatever is done to a new Shelf, up to five deeds in a row.
func TestAShelfStaysRightWhateverIsDone(t *testing.T) {
	deeds := []deed{{kind: 1}, {kind: 2}}
	for _, text := range []string{"a", "", "korseta"} {
		for _, stamp := range []int64{0, 1, 2} {
			deeds = append(deeds, deed{text: text, round: stamp})
		}
	}
	for _, round := range []int64{1, 2, 3} {
		deeds = append(deeds, deed{kind: 3, round: round}, deed{kind: 3, round: round, marks: []int64{1}})
	}
	var on func(impl.Shelf, int)
	on = func(s impl.Shelf, more int) {
		if !shelfRight(s) || !impl.ShelfOk(s) {
			t.Fatalf("%s is not right any more", shelfShown(s))
		}
		if more == 0 {
			return
		}
		for _, d := range deeds {
			on(d.done(t, s), more-1)
		}
	}
	on(impl.Shelf{}, 5)
}

// Long rows of deeds, on shelves that become full, and lose many again.
func TestAShelfStaysRightForLong(t *testing.T) {
	for seed := range uint32(4) {
		news := append(numbersOf(impl.MaxBlobs<<(seed%2)+40, 6), mixed(impl.MaxText+1, 5))
		state := seed*7919 + 1
		next := func(below int) int {
			state = state*1664525 + 1013904223
			return int(state>>8) % below
		}
		var s impl.Shelf
		most, emptied := 0, 0
		for step := range 1500 {
			d := deed{text: news[next(len(news))], round: s.Round + int64(next(4)) - 1}
			if step%40 == 39 {
				d.kind = 1
			}
			if step%400 == 399 {
				d.kind, d.round = 3-step/400%2, s.Round+2
				d.marks = shuffled(digestsOf(shelvedBlobs(s)), state)[:len(s.Items)*next(6)/10]
				crashKeeps(t, s)
				sweepKeeps(t, s, d.round, d.marks)
			}
			before := len(s.Items)
			if s = d.done(t, s); !shelfRight(s) {
				t.Fatalf("after %d deeds %s is not right", step+1, shelfShown(s))
			}
			most, emptied = max(most, len(s.Items)), max(emptied, before-len(s.Items))
		}
		if most < impl.MaxBlobs || emptied < 50 {
			t.Fatalf("the test's own shelf had %d Items at most, and lost %d at once", most, emptied)
		}
	}
}

// In any order the same Shelf comes of texts that do not Clash.
func TestLaidInAnyOrderIsTheSameShelf(t *testing.T) {
	orders([]string{"", "a", "b", "one", "cellar"}, func(texts []string) {
		var s impl.Shelf
		for _, text := range texts {
			s = laysRight(t, s, text, 3)
		}
		if wanted := shelfOf(0, itm("", 3, 0, false), itm("a", 3, 0, false), itm("b", 3, 0, false), itm("one", 3, 0, false), itm("cellar", 3, 0, false)); !sameShelf(s, wanted) {
			t.Fatalf("%q Laid make %s", texts, shelfShown(s))
		}
	})
}

func TestSweptByVeryManyMarks(t *testing.T) {
	full := impl.Shelf{Items: itemsOver(fullStore(), 0)}
	many, _ := veryMany()
	wanted, went := sweptOf(full, impl.MaxRound, nil)
	sweeps(t, "none is marked", full, impl.MaxRound, many, wanted, went)
	sweeps(t, "all are marked", full, impl.MaxRound, slices.Concat(many, digestsOf(shelvedBlobs(full)), many), impl.Shelf{Round: impl.MaxRound, Items: full.Items}, 0)
}

// mixedShelves are right ones, and some that are not.
func mixedShelves() []impl.Shelf {
	shelves := rightShelves()
	for i, w := range someWrongShelves() {
		if i%7 == 0 {
			shelves = append(shelves, w.shelf)
		}
	}
	return shelves
}

func TestShelvesLeaveTheirArguments(t *testing.T) {
	for n, given := range mixedShelves() {
		blobs, rows, pictures := overBlobs(shelvedBlobs(given))
		lying := slices.Clone(given.Items)
		for i := range lying {
			lying[i].Blob = blobs[i]
		}
		items, picture := roomy(lying, itm("filler", 9, 9, true))
		s := impl.Shelf{Round: given.Round, Items: items}
		all := digestsOf(blobs)
		marks, pictureOfMarks := roomy(append(shuffled(all, uint32(n))[:len(all)/2], 5, -5, 5, 0), 42)
		news := newsFor(given)
		if len(given.Items) > 20 {
			news = news[:13]
		}
		impl.ShelfOk(s)
		for _, text := range news {
			row, pictureOfText := roomy([]byte(text), '\x2a')
			for _, stamp := range []int64{-1, 3, impl.MaxRound} {
				impl.Laid(s, over(row), stamp)
			}
			stays(t, "Laid's text", row, pictureOfText)
		}
		impl.Synced(s)
		impl.Crashed(s)
		for _, round := range []int64{-1, given.Round - 1, given.Round, 4, impl.MaxRound} {
			impl.Swept(s, round, marks)
		}
		for _, d := range marks {
			impl.Fetched(s, d)
		}
		stays(t, "the Items", items, picture)
		stays(t, "the marks", marks, pictureOfMarks)
		for i := range rows {
			stays(t, "an Item's text", rows[i], pictures[i])
		}
	}
}

// Items may be a piece of a greater list, and marks, too.
func TestShelvesDoNotLookIntoTheRoomBehind(t *testing.T) {
	for _, whole := range [][]impl.Item{itemsOver(blobsOf("a", "b", "cellar", "dsnkkkn"), 0), itemsOver(fullStore(), 1)} {
		picture := slices.Clone(whole)
		for _, size := range []int{0, 1, 2, len(whole) - 1} {
			s := impl.Shelf{Round: 2, Items: whole[:size]}
			for _, behind := range whole[size:min(len(whole), size+3)] {
				fetches(t, "it lies behind", s, behind.Blob.Digest, "", false)
				laysRight(t, s, behind.Blob.Text, 5)
				laysRight(t, s, sevenRound+behind.Blob.Text, 5)
			}
			syncs(t, "others lie behind", s, syncedOf(s))
			crashes(t, "others lie behind", s, crashedOf(s))
			all := digestsOf(shelvedBlobs(impl.Shelf{Items: whole}))
			for _, marks := range [][]int64{all[:0], all[:1], all[:size], reversed(all)[:2]} {
				sweepsRight(t, s, 6, marks)
			}
			if !slices.Equal(whole, picture) {
				t.Fatalf("what lies behind %d of %d Items is changed", size, len(whole))
			}
		}
	}
}

// apartFrom fails where an answer shares memory with its arguments or another answer of the same call; neither may be used any more.
func apartFrom(t *testing.T, what string, s, one, other impl.Shelf, text string) {
	t.Helper()
	picture, wanted := slices.Clone(s.Items), slices.Clone(other.Items)
	if !sameShelf(one, other) {
		t.Fatalf("%s is %s, and then %s", what, shelfShown(one), shelfShown(other))
	}
	whole := one
	whole.Items = one.Items[:cap(one.Items)]
	owns(t, what, shelvedBlobs(whole), append(textsIn(shelvedBlobs(s)), text))
	owns(t, "two times "+what, shelvedBlobs(other), textsIn(shelvedBlobs(whole)))
	for _, behind := range whole.Items[len(one.Items):] {
		if behind != (impl.Item{}) {
			t.Fatalf("%s: in the room behind lies %.40q", what, behind.Blob.Text)
		}
	}
	scribble(one.Items, itm("scribble", 42, 1, false))
	if !slices.Equal(s.Items, picture) || !slices.Equal(other.Items, wanted) {
		t.Fatalf("%s shares memory with its argument or another answer", what)
	}
}

func TestShelvesAreNewMemory(t *testing.T) {
	for n, s := range rightShelves() {
		if len(s.Items) > 20 && len(s.Items) < impl.MaxBlobs || n%3 == 2 {
			continue
		}
		s.Items = slices.Clip(s.Items)
		news := slices.Concat([]string{strings.Clone("new"), longAs("c"), "b", "\xfe"}, newsFor(s)[10:])
		for _, text := range news[:min(len(news), 8-len(s.Items)/50)] {
			for _, stamp := range []int64{-1, 6} {
				one, _, _ := impl.Laid(s, text, stamp)
				other, _, _ := impl.Laid(s, text, stamp)
				apartFrom(t, "Laid", s, one, other, text)
			}
		}
		apartFrom(t, "Synced", s, impl.Synced(s), impl.Synced(s), "")
		apartFrom(t, "Crashed", s, impl.Crashed(s), impl.Crashed(s), "")
		for _, round := range []int64{-1, impl.MaxRound} {
			for _, marks := range [][]int64{nil, digestsOf(shelvedBlobs(s))} {
				one, _ := impl.Swept(s, round, marks)
				other, _ := impl.Swept(s, round, marks)
				apartFrom(t, "Swept", s, one, other, "")
			}
		}
		for i, item := range s.Items {
			if i < 5 || i%50 == 0 {
				one, _ := impl.Fetched(s, item.Blob.Digest)
				other, _ := impl.Fetched(s, item.Blob.Digest)
				apart(t, "Fetched and its shelf", one, item.Blob.Text)
				apart(t, "two times Fetched", one, other)
			}
		}
	}
}

// As it is, but in memory of its own, whatever the code.
func TestLaidThatLeavesTheShelfAsItIsIsNewMemory(t *testing.T) {
	full := impl.Shelf{Items: slices.Clip(itemsOver(fullStore(), 0))}
	small := impl.Shelf{Items: slices.Clip(itemsOver(blobsOf("a", "b", "cellar"), 0))}
	for _, c := range []struct {
		shelf       impl.Shelf
		text        string
		stamp, code int64
	}{
		{small, "a", 0, impl.PtAgain}, {small, small.Items[2].Blob.Text, 0, impl.PtAgain}, {small, "korsetab", 3, impl.PtClash}, {small, mixed(impl.MaxText+1, 1), 3, impl.PtBad}, {small, "a", -1, impl.PtBad}, {small, "new", -1, impl.PtBad},
		{full, full.Items[7].Blob.Text, 0, impl.PtAgain}, {full, sevenRound + full.Items[7].Blob.Text, 3, impl.PtClash}, {full, "new", 3, impl.PtFull},
	} {
		one, _, code := impl.Laid(c.shelf, c.text, c.stamp)
		other, _, _ := impl.Laid(c.shelf, c.text, c.stamp)
		if code != c.code || !sameShelf(one, c.shelf) {
			t.Fatalf("Laid of %.40q with %d is %d and %s, not %d and as it was", c.text, c.stamp, code, shelfShown(one), c.code)
		}
		apartFrom(t, "Laid, as it is", c.shelf, one, other, c.text)
	}
}

// A text of one byte is made by its conversion, which lies where all such texts do.
func TestItemsOfOneByteAreNewMemory(t *testing.T) {
	for b := range 256 {
		text := string([]byte{byte(b)})
		one, d, _ := impl.Laid(impl.Shelf{}, text, 1)
		two, _, _ := impl.Laid(one, text, 1)
		swept, _ := impl.Swept(one, 1, nil)
		got, _ := impl.Fetched(one, d)
		crashed := impl.Crashed(impl.Synced(one))
		all := []string{text, one.Items[0].Blob.Text, two.Items[0].Blob.Text, impl.Synced(one).Items[0].Blob.Text, swept.Items[0].Blob.Text, crashed.Items[0].Blob.Text, got}
		for i, s := range all {
			for _, before := range all[:i] {
				apart(t, "a text of one byte", s, before)
			}
		}
	}
}

func TestShelvesKeepNothingFromCallToCall(t *testing.T) {
	s := shelfOf(2, itm("a", 3, 3, true), itm("b", 5, 0, false), itm("cellar", 5, 2, false))
	for range 3 {
		lays(t, "a new one", s, "one", 4, shelfOf(2, itm("a", 3, 3, true), itm("b", 5, 0, false), itm("cellar", 5, 2, false), itm("one", 4, 0, false)), 1970437566, impl.PtNew)
		fetches(t, "it was Laid on another", s, 1970437566, "", false)
		lays(t, "again", s, "a", 9, shelfOf(2, itm("a", 9, 3, false), itm("b", 5, 0, false), itm("cellar", 5, 2, false)), 1000101, impl.PtAgain)
		lays(t, "no right one", impl.Shelf{Round: -1}, "one", 4, impl.Shelf{}, 0, impl.PtBad)
		syncs(t, "all", s, syncedOf(s))
		crashes(t, "another was Synced", s, shelfOf(2, itm("a", 3, 3, true), itm("cellar", 2, 2, true)))
		sweeps(t, "by 4", s, 4, nil, shelfOf(4, itm("b", 5, 0, false), itm("cellar", 5, 2, false)), 1)
		sweeps(t, "by 3, after another by 4", s, 3, nil, shelfOf(3, itm("a", 3, 3, true), itm("b", 5, 0, false), itm("cellar", 5, 2, false)), 0)
		fetches(t, "it was swept from another", s, 1000101, "a", true)
	}
}
