package tests

import (
	"maps"
	"math"
	"slices"
	"strconv"
	"strings"
	"testing"
	"unsafe"

	"loop.example/g00260/impl"
)

// The limits that the chapter tells by number.
const mostNames = 40
const mostLeases = 20
const mostPins = 100
const mostLetters = 12

// noTimes are numbers that are no time.
var noTimes = []int64{-1, -2, -impl.MaxTime, math.MinInt32, -1 << 32, 1 - 1<<32, math.MinInt64 + 1, math.MinInt64, impl.MaxTime + 1, impl.MaxTime + 2, 2 * impl.MaxTime, math.MaxInt32, 1 << 32, 1<<32 + 1, 1<<32 + 5, math.MaxInt64 - 1, math.MaxInt64}

// edgeTimes are times of the two ends and between.
var edgeTimes = []int64{0, 1, 2, 10, 65536, impl.MaxTime - 1, impl.MaxTime}

// noDigests are numbers that are no digest.
var noDigests = []int64{0, -1, -2, math.MinInt64, 1 - 1<<32, greatestDigest + 1, greatestDigest + 2, 1 << 31, 1 << 32, 1<<32 + 5, 1 << 40, math.MaxInt64}

// edgeDigests are digests of the two ends and between.
var edgeDigests = []int64{1, 2, 5, 1000003, greatestDigest - 1, greatestDigest}

// noNames are texts that are no Text of a Name.
func noNames() []string {
	list := []string{"", "abcdefghijklm", "abcdefghijklmn", strings.Repeat("a", 256+3), strings.Repeat("a", 65536+3), strings.Repeat("z", 100000), "\u00e9", "a\u0131a", "\u212a", "\U0001d41a"}
	for _, b := range []byte{'A', 'Z', 'M', ' ', 0, 1, 0x7f, 0x80, 0xe1, 0xff, '`', '{', '0', '9', '-', '_', '.', '\n', '@', '['} {
		for _, text := range []string{"a", "ab", "abc", "abcdefghijkl"} {
			for _, at := range []int{0, len(text) / 2, len(text) - 1} {
				list = append(list, text[:at]+string([]byte{b})+text[at+1:])
			}
		}
	}
	return list
}

// goodNames are Texts of Names: short, long, and at the ends of the alphabet.
var goodNames = []string{"a", "z", "m", "aa", "az", "za", "zz", "cellar", "abcdefghijk", "abcdefghijkl", "aaaaaaaaaaaa", "zzzzzzzzzzzz"}

// named are so many Names whose Texts rise, all with this Root and At.
func named(count int, root, at int64) []impl.Name {
	var list []impl.Name
	for i := range count {
		list = append(list, impl.Name{Text: string([]byte{byte('a' + i/26), byte('a' + i%26)}), Root: root, At: at})
	}
	return list
}

// leased are so many Leases with Ids from one on, till this time, without Pins.
func leased(count int, from, until int64) []impl.Lease {
	var list []impl.Lease
	for i := range int64(count) {
		list = append(list, impl.Lease{Id: from + i, Until: until})
	}
	return list
}

// pinning is a Lease with these Pins, all of them Acked where told, and the last one as its Root.
func pinning(id, until int64, acked bool, pins ...int64) impl.Lease {
	l := impl.Lease{Id: id, Until: until, Pins: pins, Root: pins[len(pins)-1]}
	if acked {
		l.Acked = slices.Clone(pins)
	}
	return l
}

// catalogCopy shares no memory with the Catalog.
func catalogCopy(c impl.Catalog) impl.Catalog {
	c.Names, c.Leases = slices.Clone(c.Names), slices.Clone(c.Leases)
	for i, l := range c.Leases {
		c.Leases[i].Pins, c.Leases[i].Acked = slices.Clone(l.Pins), slices.Clone(l.Acked)
	}
	return c
}

// catalogWith is a copy of the Catalog with a change.
func catalogWith(c impl.Catalog, change func(*impl.Catalog)) impl.Catalog {
	other := catalogCopy(c)
	change(&other)
	return other
}

// ordinaryCatalog has two Names, and Leases of all kinds: with some Acked, over with all, without Pins, with all, with none.
func ordinaryCatalog() impl.Catalog {
	half := pinning(2, 30, false, 5, 7, 9)
	half.Acked = []int64{7}
	return impl.Catalog{
		Now: 20, Round: 3, Next: 12,
		Names:  []impl.Name{{Text: "b", Root: 7, At: 3}, {Text: "cellar", Root: 900, At: 20}},
		Leases: []impl.Lease{half, pinning(4, 20, true, 9, 11), {Id: 5, Until: 21}, pinning(9, 1000, true, 5, 11, 40), pinning(11, 25, false, 3, 900)},
	}
}

// fullCatalog has as many Names, Leases and Pins as there may be.
func fullCatalog() impl.Catalog {
	c := impl.Catalog{Now: 50, Round: impl.MaxRound, Names: named(mostNames, greatestDigest, 50), Next: impl.MaxRound}
	for i := range int64(mostLeases) {
		c.Leases = append(c.Leases, pinning(impl.MaxRound-mostLeases+i, 49+i, i%3 > 0, risingMarks(mostPins, 1+i*50, 1+i*1000000)...))
	}
	return c
}

// rightCatalogs are of all shapes: ordinary ones and edges.
func rightCatalogs() []impl.Catalog {
	o := ordinaryCatalog()
	list := []impl.Catalog{{Round: 1, Next: 1}, {Round: 1, Next: 1, Names: []impl.Name{}, Leases: []impl.Lease{}}, o, fullCatalog()}
	with := func(change func(*impl.Catalog)) { list = append(list, catalogWith(o, change)) }
	for _, now := range edgeTimes {
		for _, at := range []int64{0, max(now-1, 0), now, min(now+1, impl.MaxTime), impl.MaxTime} {
			with(func(c *impl.Catalog) { c.Now, c.Names[0].At, c.Names[1].At = now, at, now })
			with(func(c *impl.Catalog) { c.Now, c.Leases[0].Until, c.Leases[3].Until = now, at, now })
		}
	}
	for _, n := range []int64{1, 2, 3, 65536, impl.MaxRound - 1, impl.MaxRound} {
		with(func(c *impl.Catalog) { c.Round = n })
		with(func(c *impl.Catalog) { c.Leases, c.Next = nil, n })
		if n > 1 {
			with(func(c *impl.Catalog) { c.Leases, c.Next = leased(1, n-1, 30), n })
			with(func(c *impl.Catalog) { c.Leases, c.Next = leased(1, 1, 19), n })
		}
	}
	for _, count := range []int{1, 2, mostNames - 1, mostNames} {
		with(func(c *impl.Catalog) { c.Names = named(count, 5, 20) })
	}
	for _, count := range []int{1, 2, mostLeases - 1, mostLeases} {
		with(func(c *impl.Catalog) { c.Leases, c.Next = leased(count, 1, 30), 21 })
		with(func(c *impl.Catalog) { c.Leases, c.Next = leased(count, 7, 20), 500 })
	}
	for _, text := range goodNames {
		with(func(c *impl.Catalog) { c.Names = []impl.Name{{Text: text, Root: 1}} })
	}
	for _, d := range edgeDigests {
		with(func(c *impl.Catalog) { c.Names[1].Root, c.Leases[0] = d, pinning(2, 30, false, d) })
		with(func(c *impl.Catalog) { c.Names[0].Root, c.Leases[4] = d, pinning(11, 30, true, d) })
	}
	for _, count := range []int{1, 2, 3, mostPins - 1, mostPins} {
		for _, acked := range []int{0, 1, count / 2, count - 1, count} {
			with(func(c *impl.Catalog) {
				l := pinning(9, 1000, false, risingMarks(count, 2, 3)...)
				l.Acked, l.Root = l.Pins[:acked:acked], l.Pins[acked/2]
				c.Leases[3] = l
			})
		}
	}
	return list
}

// A wrongCatalog is one that is not right.
type wrongCatalog struct {
	why     string
	catalog impl.Catalog
}

// wrongCatalogs are wrong by all there is to be wrong, each by one change.
func wrongCatalogs() []wrongCatalog {
	wrong := []wrongCatalog{{"the zero Catalog", impl.Catalog{}}}
	o := ordinaryCatalog()
	with := func(why string, change func(*impl.Catalog)) {
		wrong = append(wrong, wrongCatalog{why, catalogWith(o, change)})
	}
	for _, n := range noTimes {
		with("Now is no time", func(c *impl.Catalog) { c.Now = n })
		with("Now is no time, and all else is empty", func(c *impl.Catalog) { *c = impl.Catalog{Now: n, Round: 1, Next: 1} })
		for i := range o.Names {
			with("an At is no time", func(c *impl.Catalog) { c.Names[i].At = n })
		}
		for i := range o.Leases {
			with("an Until is no time", func(c *impl.Catalog) { c.Leases[i].Until = n })
		}
	}
	for _, n := range append([]int64{0}, outRounds...) {
		with("the Round is out of range", func(c *impl.Catalog) { c.Round = n })
		with("Next is out of range, without Leases", func(c *impl.Catalog) { c.Next, c.Leases = n, nil })
		if n > 0 {
			with("Next is too great, with Leases", func(c *impl.Catalog) { c.Next = n })
		}
	}
	for _, count := range []int{mostLeases + 1, mostLeases + 2, 5000} {
		with("too many Leases", func(c *impl.Catalog) { c.Leases, c.Next = leased(count, 1, 30), impl.MaxRound })
		with("too many Leases, all over", func(c *impl.Catalog) { c.Leases, c.Next = leased(count, 7, 20), impl.MaxRound })
	}
	for _, w := range wrongNameLists() {
		with(w.why, func(c *impl.Catalog) { c.Names = w.catalog.Names })
	}
	for _, w := range wrongLeaseLists() {
		with(w.why, func(c *impl.Catalog) { c.Leases = w.catalog.Leases })
	}
	return wrong
}

// wrongNameLists are the Names of a Catalog, with nothing else in it, that is wrong by them.
func wrongNameLists() []wrongCatalog {
	var wrong []wrongCatalog
	names := func(why string, list ...impl.Name) {
		wrong = append(wrong, wrongCatalog{why, impl.Catalog{Names: list}})
	}
	n := func(text string) impl.Name { return impl.Name{Text: text, Root: 5, At: 3} }
	for _, text := range noNames() {
		names("no Text of a Name", n(text))
		three := []impl.Name{n("b"), n("c"), n(text)}
		slices.SortFunc(three, func(a, b impl.Name) int { return strings.Compare(a.Text, b.Text) })
		names("no Text of a Name, among others", three...)
	}
	for _, d := range noDigests {
		for i := range 3 {
			list := []impl.Name{n("b"), n("c"), n("d")}
			list[i].Root = d
			names("a Root is no digest", list...)
		}
	}
	names("they fall", n("b"), n("a"))
	names("two are alike", n("b"), n("b"))
	names("two are alike, but for all else", n("b"), impl.Name{Text: "b", Root: 6, At: 4})
	names("two are alike, behind others", n("a"), n("b"), n("c"), n("c"))
	names("a longer one is ahead of what it begins with", n("ab"), n("a"))
	names("by length they would rise", n("b"), n("aa"))
	names("the last one falls", n("b"), n("c"), n("a"))
	names("one too many", named(mostNames+1, 5, 3)...)
	names("very many", named(600, 5, 3)...)
	falling := named(mostNames, 5, 3)
	slices.Reverse(falling)
	names("all fall", falling...)
	names("the zero Name", impl.Name{})
	return wrong
}

// wrongLeaseLists are the Leases of a Catalog, with nothing else in it, that is wrong by them where Next is 12.
func wrongLeaseLists() []wrongCatalog {
	var wrong []wrongCatalog
	leases := func(why string, list ...impl.Lease) {
		wrong = append(wrong, wrongCatalog{why, impl.Catalog{Leases: list}})
	}
	l := func(id int64) impl.Lease { return pinning(id, 30, false, 5, 7) }
	for _, id := range []int64{0, -1, math.MinInt64, 1 - 1<<32} {
		leases("an Id below 1", l(id))
		leases("an Id below 1, ahead of others", l(id), l(3))
	}
	for _, id := range []int64{12, 13, 100, impl.MaxRound, impl.MaxRound + 1, 1<<32 + 5, math.MaxInt64} {
		leases("an Id that is not below Next", l(id))
		leases("an Id that is not below Next, behind others", l(3), l(11), l(id))
	}
	leases("they fall", l(3), l(2))
	leases("two are alike", l(3), l(3))
	leases("two are alike, but for all else", l(3), impl.Lease{Id: 3, Until: 40})
	leases("two are alike, behind others", l(1), l(2), l(5), l(5))
	leases("the last one falls", l(2), l(3), l(1))
	leases("the first one is not below Next", l(12), l(3))
	leases("the zero Lease", impl.Lease{})
	leases("very many zero Leases", make([]impl.Lease, 100000)...)
	for _, w := range wrongLeases() {
		leases(w.why, w.catalog.Leases...)
		leases(w.why+", behind others", append([]impl.Lease{l(1), {Id: 2, Until: 30}}, w.catalog.Leases...)...)
		leases(w.why+", ahead of others", append(slices.Clone(w.catalog.Leases), l(4), impl.Lease{Id: 5, Until: 30})...)
		over := w.catalog.Leases[0]
		over.Until = 20
		leases(w.why+", and it is over", over)
	}
	return wrong
}

// wrongLeases are one Lease each, with the Id 3, that is wrong by what it pins.
func wrongLeases() []wrongCatalog {
	var wrong []wrongCatalog
	lease := func(why string, root int64, pins, acked []int64) {
		wrong = append(wrong, wrongCatalog{why, impl.Catalog{Leases: []impl.Lease{{Id: 3, Until: 30, Pins: pins, Acked: acked, Root: root}}}})
	}
	for _, d := range noDigests {
		lease("a Pin is no digest, alone", d, nodes(d), nil)
		lease("a Pin is no digest, with others", 5, slices.Sorted(slices.Values(nodes(5, d, 7))), nil)
		lease("what is Acked is no Pin and no digest", 5, nodes(5, 7), nodes(d))
		lease("among what is Acked is no Pin and no digest", 5, nodes(5, 7), slices.Sorted(slices.Values(nodes(5, d))))
		if d != 0 {
			lease("the Root is no digest", d, nodes(5, 7), nil)
			lease("the Root is no digest, and there are no Pins", d, nil, nil)
		}
	}
	lease("the Root is 0, with Pins", 0, nodes(5, 7), nil)
	lease("the Root is 0, with a Pin that is Acked", 0, nodes(5), nodes(5))
	for _, root := range []int64{1, 4, 6, 8, 10, greatestDigest} {
		lease("the Root is none of the Pins", root, nodes(5, 7, 9), nodes(5))
		lease("a Root without Pins", root, nil, nil)
	}
	for _, pins := range [][]int64{{7, 5}, {5, 5}, {5, 7, 7}, {5, 5, 7}, {5, 9, 7}, {9, 7, 5}, append(risingMarks(mostPins-1, 5, 1), 5)} {
		lease("the Pins do not rise", 5, pins, nil)
		lease("the Pins do not rise, one is Acked", 5, pins, nodes(5))
		lease("the Pins do not rise, all are Acked", 5, pins, pins)
	}
	for _, acked := range [][]int64{{6}, {5, 6}, {1}, {5, 7, 9, 10}, {4, 5, 7, 9}, {greatestDigest}} {
		lease("what is Acked is no Pin", 5, nodes(5, 7, 9), acked)
	}
	for _, acked := range [][]int64{{7, 5}, {5, 5}, {5, 7, 7}, {9, 7, 5}, {5, 9, 7}, {5, 5, 5}, {7, 9, 5}} {
		lease("what is Acked does not rise", 5, nodes(5, 7, 9), acked)
	}
	lease("something is Acked without Pins", 0, nil, nodes(5))
	lease("one Pin too many", 5, risingMarks(mostPins+1, 5, 1), nil)
	lease("one Pin too many, all Acked", 5, risingMarks(mostPins+1, 5, 1), risingMarks(mostPins+1, 5, 1))
	lease("very many Pins", 5, risingMarks(3000, 5, 1), nil)
	lease("very many are Acked", 5, nodes(5, 7), risingMarks(3000, 5, 1))
	return wrong
}

// catalogRight tells whether a Catalog is as the chapter tells, word by word.
func catalogRight(c impl.Catalog) bool {
	isTime := func(n int64) bool { return n >= 0 && n <= 1000000 }
	right := isTime(c.Now) && c.Round > 0 && isRound(c.Round) && c.Next > 0 && isRound(c.Next) && len(c.Names) <= 40 && len(c.Leases) <= 20
	for i, n := range c.Names {
		right = right && letters(n.Text) && isDigest(n.Root) && isTime(n.At)
		right = right && (i == 0 || c.Names[i-1].Text < n.Text)
	}
	for i, l := range c.Leases {
		right = right && l.Id >= 1 && l.Id < c.Next && isTime(l.Until) && len(l.Pins) <= 100
		right = right && (i == 0 || c.Leases[i-1].Id < l.Id)
		for j, p := range l.Pins {
			right = right && isDigest(p) && (j == 0 || l.Pins[j-1] < p)
		}
		for j, p := range l.Acked {
			right = right && slices.Contains(l.Pins, p) && (j == 0 || l.Acked[j-1] < p)
		}
		right = right && (slices.Contains(l.Pins, l.Root) || len(l.Pins) == 0 && l.Root == 0)
	}
	return right
}

func isDigest(n int64) bool { return n >= 1 && n <= 2147483646 }

// letters tells whether it is a Text of a Name.
func letters(s string) bool {
	for i := range len(s) {
		if s[i] < 'a' || s[i] > 'z' {
			return false
		}
	}
	return len(s) >= 1 && len(s) <= 12
}

func sameCatalog(a, b impl.Catalog) bool {
	return a.Now == b.Now && a.Round == b.Round && a.Next == b.Next && slices.Equal(a.Names, b.Names) && slices.EqualFunc(a.Leases, b.Leases, sameLease)
}

func sameLease(a, b impl.Lease) bool {
	return a.Id == b.Id && a.Until == b.Until && a.Root == b.Root && slices.Equal(a.Pins, b.Pins) && slices.Equal(a.Acked, b.Acked)
}

// catalogShown is a Catalog for one to read, all of it where it is short.
func catalogShown(c impl.Catalog) string {
	var text strings.Builder
	numbers := func(list ...int64) {
		for i, n := range list {
			if i == 12 {
				text.WriteString(" .." + strconv.Itoa(len(list)))
				return
			}
			text.WriteString(" " + strconv.FormatInt(n, 10))
		}
	}
	numbers(c.Now, c.Round, c.Next)
	for _, n := range c.Names[:min(len(c.Names), 9)] {
		text.WriteString(" (" + strconv.Quote(n.Text[:min(len(n.Text), 15)]))
		numbers(n.Root, n.At)
		text.WriteString(")")
	}
	text.WriteString(" of " + strconv.Itoa(len(c.Names)))
	for _, l := range c.Leases[:min(len(c.Leases), 9)] {
		text.WriteString(" [")
		numbers(l.Id, l.Until, l.Root)
		text.WriteString(";")
		numbers(l.Pins...)
		text.WriteString(";")
		numbers(l.Acked...)
		text.WriteString("]")
	}
	return text.String() + " of " + strconv.Itoa(len(c.Leases))
}

// A calling is a call that makes another Catalog of one.
type calling struct {
	what string
	id   int64
	n    int64
	pins []int64
	name string
}

func opening(span int64) calling { return calling{what: "Opened", n: span} }

func pinsOn(id, root int64, pins ...int64) calling {
	return calling{what: "Pinned", id: id, n: root, pins: pins}
}

func hearing(id, digest int64) calling { return calling{what: "Heard", id: id, n: digest} }

func committing(id int64, name string) calling {
	return calling{what: "Committed", id: id, name: name}
}

func deleting(name string) calling { return calling{what: "Deleted", name: name} }

func passing(to int64) calling { return calling{what: "Passed", n: to} }

func (k calling) shown() string {
	text := k.what
	for _, n := range append([]int64{k.id, k.n, int64(len(k.pins))}, k.pins[:min(len(k.pins), 9)]...) {
		text += " " + strconv.FormatInt(n, 10)
	}
	return text + " " + strconv.Quote(k.name[:min(len(k.name), 15)])
}

// called is what the program makes; true is 1, false is 0 (and -1 of Opened).
func (k calling) called(c impl.Catalog) (impl.Catalog, int64) {
	var after impl.Catalog
	var is bool
	switch k.what {
	case "Opened":
		return impl.Opened(c, k.n)
	case "Pinned":
		after, is = impl.Pinned(c, k.id, k.pins, k.n)
	case "Heard":
		after, is = impl.Heard(c, k.id, k.n)
	case "Committed":
		after, is = impl.Committed(c, k.id, k.name)
	case "Deleted":
		after, is = impl.Deleted(c, k.name)
	case "Passed":
		after, is = impl.Passed(c, k.n)
	}
	if is {
		return after, 1
	}
	return after, 0
}

// refusal is what the call answers beside the Catalog where it does nothing.
func (k calling) refusal() int64 {
	if k.what == "Opened" {
		return -1
	}
	return 0
}

// leaseAt is the place of the Lease that is not over, -1 where there is none.
func leaseAt(c impl.Catalog, id int64) int {
	return slices.IndexFunc(c.Leases, func(l impl.Lease) bool { return l.Id == id && l.Until > c.Now })
}

// told tells, of a right Catalog, what called is to make, word by word.
func (k calling) told(c impl.Catalog) (impl.Catalog, int64) {
	d := catalogCopy(c)
	at := leaseAt(c, k.id)
	has := slices.ContainsFunc(c.Names, func(n impl.Name) bool { return n.Text == k.name })
	switch k.what {
	case "Opened":
		if k.n < 1 || k.n > 1000000 || c.Now+k.n > 1000000 || len(c.Leases) >= 20 || c.Next+1 > 100000 {
			return c, -1
		}
		d.Leases = append(d.Leases, impl.Lease{Id: c.Next, Until: c.Now + k.n})
		d.Next = c.Next + 1
		return d, c.Next
	case "Pinned":
		if at < 0 {
			return c, 0
		}
		all := map[int64]bool{}
		for _, p := range append(slices.Clone(c.Leases[at].Pins), k.pins...) {
			all[p] = true
			if !isDigest(p) {
				return c, 0
			}
		}
		if !slices.Contains(k.pins, k.n) || len(all) > 100 {
			return c, 0
		}
		d.Leases[at].Pins, d.Leases[at].Root = slices.Sorted(maps.Keys(all)), k.n
	case "Heard":
		if at < 0 || !slices.Contains(c.Leases[at].Pins, k.n) {
			return c, 0
		}
		if !slices.Contains(c.Leases[at].Acked, k.n) {
			d.Leases[at].Acked = slices.Sorted(slices.Values(append(d.Leases[at].Acked, k.n)))
		}
	case "Committed":
		if at < 0 || c.Leases[at].Root == 0 || has || !letters(k.name) || len(c.Names) >= 40 {
			return c, 0
		}
		for _, p := range c.Leases[at].Pins {
			if !slices.Contains(c.Leases[at].Acked, p) {
				return c, 0
			}
		}
		d.Names = append(d.Names, impl.Name{Text: k.name, Root: c.Leases[at].Root, At: c.Now})
		slices.SortFunc(d.Names, func(a, b impl.Name) int { return strings.Compare(a.Text, b.Text) })
		d.Leases = slices.Delete(d.Leases, at, at+1)
	case "Deleted":
		if !has {
			return c, 0
		}
		d.Names = slices.DeleteFunc(d.Names, func(n impl.Name) bool { return n.Text == k.name })
	case "Passed":
		if k.n < c.Now || k.n > 1000000 {
			return c, 0
		}
		d.Now = k.n
		d.Leases = slices.DeleteFunc(d.Leases, func(l impl.Lease) bool { return l.Until <= k.n })
	}
	return d, 1
}

// rootsOf tells Roots of a right Catalog.
func rootsOf(c impl.Catalog) []int64 {
	all := map[int64]bool{}
	for _, n := range c.Names {
		all[n.Root] = true
	}
	for _, l := range c.Leases {
		for _, p := range l.Pins {
			if l.Until > c.Now {
				all[p] = true
			}
		}
	}
	return slices.Sorted(maps.Keys(all))
}

// makes fails where a call does not make this, and answers what it does.
func makes(t *testing.T, why string, c impl.Catalog, k calling, wanted impl.Catalog, answer int64) impl.Catalog {
	t.Helper()
	got, n := k.called(c)
	if n != answer || !sameCatalog(got, wanted) {
		t.Fatalf("%s: %s on %s is %d and %s, not %d and %s", why, k.shown(), catalogShown(c), n, catalogShown(got), answer, catalogShown(wanted))
	}
	return got
}

// makesRight is makes where the document's words are followed one by one; what comes is right, and has the Roots that it is to have.
func makesRight(t *testing.T, why string, c impl.Catalog, k calling) impl.Catalog {
	t.Helper()
	wanted, answer := k.told(c)
	got := makes(t, why, c, k, wanted, answer)
	if !catalogRight(got) || !impl.CatalogOk(got) {
		t.Fatalf("%s: %s on %s makes %s, which is not right", why, k.shown(), catalogShown(c), catalogShown(got))
	}
	if answer == k.refusal() && !sameCatalog(got, c) {
		t.Fatalf("%s: %s on %s does nothing, and makes %s", why, k.shown(), catalogShown(c), catalogShown(got))
	}
	rootsAre(t, why, got, rootsOf(got)...)
	return got
}

// refuses fails where a call does anything, or says that it does.
func refuses(t *testing.T, why string, c impl.Catalog, k calling) {
	t.Helper()
	makes(t, why, c, k, c, k.refusal())
}

func rootsAre(t *testing.T, why string, c impl.Catalog, wanted ...int64) {
	t.Helper()
	if got := impl.Roots(c); !slices.Equal(got, wanted) {
		t.Fatalf("%s: Roots of %s are %v, not %v", why, catalogShown(c), got, wanted)
	}
}

// idsFor are those of a Catalog's Leases, and such as are none.
func idsFor(c impl.Catalog) []int64 {
	ids := []int64{-1, 0, c.Next, c.Next + 1, math.MinInt64, math.MaxInt64}
	for i, l := range c.Leases {
		if i < 5 || i == len(c.Leases)-1 {
			ids = append(ids, l.Id, l.Id+1, l.Id+1<<32)
		}
	}
	return ids
}

// callingsFor are calls on a Catalog: what does something, what does not, and edges.
func callingsFor(c impl.Catalog) []calling {
	var list []calling
	for _, span := range []int64{0, 1, 2, 10, -1, impl.MaxTime, impl.MaxTime + 1, impl.MaxTime - c.Now - 1, impl.MaxTime - c.Now, impl.MaxTime - c.Now + 1, 1 << 32, 1<<32 + 1, math.MaxInt64, math.MaxInt64 - c.Now, math.MaxInt64 - c.Now + 1, math.MinInt64, math.MinInt64 + impl.MaxTime} {
		list = append(list, opening(span))
	}
	for _, to := range append([]int64{c.Now - 1, c.Now, c.Now + 1}, noTimes...) {
		list = append(list, passing(to))
	}
	for i, l := range c.Leases {
		if i < 6 {
			list = append(list, passing(l.Until-1), passing(l.Until), passing(l.Until+1))
		}
	}
	list = append(list, passing(0), passing(impl.MaxTime))
	for i, n := range c.Names {
		if i < 3 || i%13 == 0 {
			list = append(list, deleting(n.Text), deleting(n.Text+"a"), deleting(n.Text[:len(n.Text)-1]))
		}
	}
	for _, name := range []string{"", "a", "new", "zzz", "CELLAR", "abcdefghijkl", "abcdefghijklm"} {
		list = append(list, deleting(name))
	}
	for _, id := range idsFor(c) {
		var pins []int64
		if at := slices.IndexFunc(c.Leases, func(l impl.Lease) bool { return l.Id == id }); at >= 0 {
			pins = c.Leases[at].Pins
		}
		list = append(list, callingsOf(id, pins)...)
		for _, n := range c.Names[:min(len(c.Names), 2)] {
			list = append(list, committing(id, n.Text), committing(id, n.Text[:1]+"x"))
		}
	}
	return list
}

// callingsOf are calls that tell an Id, whose Lease has these Pins.
func callingsOf(id int64, pins []int64) []calling {
	list := []calling{pinsOn(id, 0), pinsOn(id, 5), pinsOn(id, 5, 5), pinsOn(id, 5, 7, 5), pinsOn(id, 7, 5, 7, 7, 5), pinsOn(id, 6, 5, 7), pinsOn(id, 0, 5, 0), pinsOn(id, 5, 5, -1), pinsOn(id, 0, 5, 7), pinsOn(id, greatestDigest, 1, greatestDigest), pinsOn(id, greatestDigest+1, 5, greatestDigest+1), pinsOn(id, 5, 5, greatestDigest+1)}
	fresh := risingMarks(mostPins+1, 1000000000, 1)
	for _, count := range []int{mostPins - len(pins), mostPins - len(pins) + 1} {
		if more := fresh[:count]; count > 0 {
			list = append(list, pinsOn(id, more[0], more...), pinsOn(id, more[count-1], slices.Concat(pins, more, reversed(more), pins)...))
		}
	}
	if len(pins) > 0 {
		list = append(list, pinsOn(id, pins[0], pins...), pinsOn(id, pins[len(pins)-1], reversed(pins)...), pinsOn(id, pins[0], 6), pinsOn(id, 6, 6), pinsOn(id, pins[0], pins[0], 6), pinsOn(id, pins[0]))
	}
	for _, d := range []int64{0, 5, 6, 1000000000, -1, math.MinInt64, math.MaxInt64} {
		list = append(list, hearing(id, d))
	}
	for i, p := range pins {
		if i < 3 || i == len(pins)-1 {
			list = append(list, hearing(id, p), hearing(id, p+1<<32))
		}
	}
	for _, name := range []string{"", "a", "new", "zzz", "ce", "cellara", "abcdefghijkl", "abcdefghijklm", "A", "a b", "a\x00", "\xff"} {
		list = append(list, committing(id, name))
	}
	return list
}

func TestTheLimitOfTimes(t *testing.T) {
	if impl.MaxTime != 1000000 {
		t.Error("the limit is not the document's")
	}
}

func TestCatalogOkOfRightCatalogs(t *testing.T) {
	for i, c := range rightCatalogs() {
		if !impl.CatalogOk(c) || !catalogRight(c) {
			t.Errorf("number %d, a right one, is not CatalogOk: %s", i, catalogShown(c))
		}
	}
}

func TestCatalogOkOfWrongCatalogs(t *testing.T) {
	for _, w := range wrongCatalogs() {
		if impl.CatalogOk(w.catalog) || catalogRight(w.catalog) {
			t.Errorf("%s: CatalogOk is true of %s", w.why, catalogShown(w.catalog))
		}
	}
}

// Of one Lease about the least Id, and about Next.
func TestCatalogOkAtTheEdgesOfIds(t *testing.T) {
	for _, next := range []int64{1, 2, 3, 12, 5000, impl.MaxRound} {
		for _, id := range []int64{-1, 0, 1, 2, next - 2, next - 1, next, next + 1, impl.MaxRound, impl.MaxRound + 1} {
			c := impl.Catalog{Round: 1, Leases: leased(1, id, 3), Next: next}
			if is := impl.CatalogOk(c); is != (id >= 1 && id < next) {
				t.Errorf("CatalogOk of a Lease %d below a Next of %d is %v", id, next, is)
			}
		}
	}
}

// Of each short text of such bytes.
func TestCatalogOkOfEachShortName(t *testing.T) {
	texts("az\x00 AZ`{\x80\xff\xc3\xa9", 3, func(text string) {
		c := impl.Catalog{Round: 1, Next: 1, Names: []impl.Name{{Text: text, Root: 5}}}
		if is := impl.CatalogOk(c); is != letters(text) {
			t.Errorf("CatalogOk of a Name %q is %v", text, is)
		}
	})
	for b := range 256 {
		text := "cell" + string([]byte{byte(b)}) + "ar"
		if is := impl.CatalogOk(impl.Catalog{Round: 1, Next: 1, Names: []impl.Name{{Text: text, Root: 5}}}); is != letters(text) {
			t.Errorf("CatalogOk of a Name %q is %v", text, is)
		}
	}
}

// Of Pins, what is Acked and Root from short lists of few numbers, right ones and wrong ones.
func TestCatalogOkOfEachShortLease(t *testing.T) {
	lists := [][]int64{nil}
	texts("\x00\x01\x02\x03", 3, func(which string) {
		var list []int64
		for _, i := range []byte(which) {
			list = append(list, []int64{0, 1, 5, greatestDigest}[i])
		}
		lists = append(lists, list)
	})
	right := 0
	for _, pins := range lists {
		for _, acked := range lists {
			for _, root := range []int64{0, 1, 5, 6, greatestDigest} {
				c := impl.Catalog{Round: 1, Next: 2, Leases: []impl.Lease{{Id: 1, Pins: pins, Acked: acked, Root: root}}}
				is := impl.CatalogOk(c)
				if is != catalogRight(c) {
					t.Fatalf("CatalogOk of %s is %v", catalogShown(c), is)
				}
				if is {
					right++
				}
			}
		}
	}
	if right < 20 {
		t.Errorf("only %d of the test's own Leases are right", right)
	}
}

func TestNewCatalogIsWhatTheDocumentTells(t *testing.T) {
	for range 3 {
		c := impl.NewCatalog()
		if !sameCatalog(c, impl.Catalog{Round: 1, Next: 1}) || !impl.CatalogOk(c) {
			t.Fatalf("NewCatalog is %s", catalogShown(c))
		}
		rootsAre(t, "a new one", c)
		c.Names = append(c.Names, impl.Name{Text: "scribble"})
		c.Leases = append(c.Leases, impl.Lease{Id: 42})
	}
}

func TestEachFunctionOfWhatIsNoRightCatalog(t *testing.T) {
	for _, w := range wrongCatalogs() {
		for _, k := range []calling{opening(1), opening(0), opening(impl.MaxTime), pinsOn(2, 5, 5), pinsOn(3, 7, 5, 7), pinsOn(0, 0), hearing(2, 5), hearing(3, 5), hearing(0, 0), committing(9, "new"), committing(3, "a"), committing(0, ""), deleting("b"), deleting("cellar"), deleting(""), passing(20), passing(impl.MaxTime), passing(-1), passing(w.catalog.Now)} {
			makes(t, w.why, w.catalog, k, impl.Catalog{}, k.refusal())
		}
		rootsAre(t, w.why, w.catalog)
	}
}

func TestOpenedIsWhatTheDocumentTells(t *testing.T) {
	start := impl.NewCatalog()
	makes(t, "the first one", start, opening(10), impl.Catalog{Round: 1, Leases: leased(1, 1, 10), Next: 2}, 1)
	makes(t, "the shortest", start, opening(1), impl.Catalog{Round: 1, Leases: leased(1, 1, 1), Next: 2}, 1)
	makes(t, "the longest", start, opening(impl.MaxTime), impl.Catalog{Round: 1, Leases: leased(1, 1, impl.MaxTime), Next: 2}, 1)
	o := ordinaryCatalog()
	makes(t, "behind others", o, opening(5), catalogWith(o, func(c *impl.Catalog) { c.Leases, c.Next = append(c.Leases, leased(1, 12, 25)...), 13 }), 12)
	for _, span := range []int64{0, -1, impl.MaxTime + 1, math.MaxInt64, math.MinInt64} {
		refuses(t, "no span", start, opening(span))
		refuses(t, "no span", o, opening(span))
	}
	for _, now := range edgeTimes {
		c := impl.Catalog{Now: now, Round: 1, Next: 5}
		for _, over := range []int64{1, 2, 1 << 32, math.MaxInt64 - impl.MaxTime} {
			refuses(t, "Until would be too great", c, opening(impl.MaxTime-now+over))
		}
		if now < impl.MaxTime {
			makes(t, "Until is just not too great", c, opening(impl.MaxTime-now), catalogWith(c, func(c *impl.Catalog) { c.Leases, c.Next = leased(1, 5, impl.MaxTime), 6 }), 5)
		}
	}
	for _, until := range []int64{30, 20, 0} {
		for count := range mostLeases + 1 {
			c := impl.Catalog{Now: 20, Round: 1, Leases: leased(count, 3, until), Next: 50}
			if count == mostLeases {
				refuses(t, "there is no room", c, opening(5))
				continue
			}
			makes(t, "there is room", c, opening(5), catalogWith(c, func(c *impl.Catalog) { c.Leases, c.Next = append(c.Leases, leased(1, 50, 25)...), 51 }), 50)
		}
	}
	last := impl.Catalog{Round: 1, Next: impl.MaxRound - 1}
	after := makes(t, "the last Id", last, opening(5), impl.Catalog{Round: 1, Leases: leased(1, impl.MaxRound-1, 5), Next: impl.MaxRound}, impl.MaxRound-1)
	refuses(t, "Next would be too great", after, opening(5))
	refuses(t, "Next would be too great, without Leases", impl.Catalog{Round: 1, Next: impl.MaxRound}, opening(5))
}

func TestPinnedIsWhatTheDocumentTells(t *testing.T) {
	base := impl.Catalog{Now: 20, Round: 3, Leases: []impl.Lease{{Id: 1, Until: 30}, pinning(2, 21, true, 5, 9), pinning(3, 20, false, 5, 9), pinning(7, 19, false, 5)}, Next: 9}
	after := func(at int, root int64, pins ...int64) impl.Catalog {
		return catalogWith(base, func(c *impl.Catalog) { c.Leases[at].Pins, c.Leases[at].Root = pins, root })
	}
	for _, k := range []struct {
		why    string
		id     int64
		root   int64
		pins   []int64
		wanted impl.Catalog
	}{
		{"the first ones", 1, 7, nodes(5, 7), after(0, 7, 5, 7)},
		{"one", 1, 5, nodes(5), after(0, 5, 5)},
		{"in any order", 1, 7, nodes(7, 3, 5), after(0, 7, 3, 5, 7)},
		{"the same one twice", 1, 5, nodes(5, 7, 5, 7, 7), after(0, 5, 5, 7)},
		{"the ends", 1, 1, nodes(greatestDigest, 1), after(0, 1, 1, greatestDigest)},
		{"to others", 2, 7, nodes(7), after(1, 7, 5, 7, 9)},
		{"to others, ahead and behind", 2, 1, nodes(11, 1), after(1, 1, 1, 5, 9, 11)},
		{"such as are there: what is Acked stays", 2, 5, nodes(5), after(1, 5, 5, 9)},
		{"all are there", 2, 9, nodes(9, 5), after(1, 9, 5, 9)},
		{"some are there, the root, too", 2, 9, nodes(9, 1, 9), after(1, 9, 1, 5, 9)},
	} {
		makes(t, k.why, base, pinsOn(k.id, k.root, k.pins...), k.wanted, 1)
	}
	for _, k := range []struct {
		why string
		calling
	}{
		{"the root is among the old ones alone", pinsOn(2, 5, 7)}, {"the root is among none", pinsOn(2, 8, 7)}, {"the root is among none, the first ones", pinsOn(1, 8, 7)}, {"a root of 0", pinsOn(1, 0, 7)},
		{"no pins", pinsOn(1, 7)}, {"no pins, a root of 0", pinsOn(1, 0)}, {"no pins, the root is an old one", pinsOn(2, 5)},
		{"it is over", pinsOn(3, 7, 7)}, {"it is over, such as are there", pinsOn(3, 5, 5)}, {"it is over for long", pinsOn(7, 7, 7)},
		{"no such Lease", pinsOn(4, 7, 7)}, {"an Id of 0", pinsOn(0, 7, 7)}, {"an Id of -1", pinsOn(-1, 7, 7)}, {"Next", pinsOn(9, 7, 7)}, {"the greatest Id", pinsOn(math.MaxInt64, 7, 7)},
	} {
		refuses(t, k.why, base, k.calling)
	}
	for _, d := range noDigests {
		refuses(t, "no digest, and it is the root", base, pinsOn(1, d, 7, d))
		for _, pins := range [][]int64{{d, 7}, {7, d}, {7, d, 9}, {7, d, d}} {
			refuses(t, "no digest", base, pinsOn(1, 7, pins...))
			refuses(t, "no digest, to others", base, pinsOn(2, 7, pins...))
		}
	}
}

func TestPinnedOfAsManyAsThereMayBe(t *testing.T) {
	all := risingMarks(mostPins+1, 3, 2)
	c := impl.Catalog{Round: 1, Leases: leased(1, 1, 30), Next: 2}
	for count := 1; count <= mostPins+1; count++ {
		pins := shuffled(slices.Concat(all[:count], all[:count/2]), uint32(count))
		got, want := makesRight(t, "at once", c, pinsOn(1, all[count-1], pins...)), count
		if count > mostPins {
			want = 0
		}
		if len(got.Leases[0].Pins) != want {
			t.Fatalf("of %d pins %d are there", count, len(got.Leases[0].Pins))
		}
	}
	for count := range mostPins {
		l := pinning(1, 30, count%2 == 0, all[:count+1]...)
		some := impl.Catalog{Round: 1, Leases: []impl.Lease{l}, Next: 2}
		makesRight(t, "just as many in all", some, pinsOn(1, all[0], all[:mostPins]...))
		makesRight(t, "just as many, and the same again", some, pinsOn(1, all[count], slices.Concat(all[count:mostPins], all[:mostPins])...))
		refuses(t, "one too many in all", some, pinsOn(1, all[mostPins], all[count+1:]...))
		refuses(t, "one too many in all, and the same again", some, pinsOn(1, all[0], all...))
	}
	many := slices.Repeat(all[:mostPins], 1000)
	makesRight(t, "the same ones very often", c, pinsOn(1, all[5], many...))
	refuses(t, "very many", c, pinsOn(1, 5, risingMarks(100000, 5, 1)...))
	step := c
	for i, p := range all {
		step = makesRight(t, "one by one", step, pinsOn(1, p, p))
		if want := min(i+1, mostPins); len(step.Leases[0].Pins) != want || step.Leases[0].Root != all[want-1] {
			t.Fatalf("after %d pins there are %d, with the Root %d", i+1, len(step.Leases[0].Pins), step.Leases[0].Root)
		}
	}
}

func TestHeardIsWhatTheDocumentTells(t *testing.T) {
	half := pinning(2, 21, false, 5, 7, 9)
	half.Acked = nodes(7)
	base := impl.Catalog{Now: 20, Round: 3, Names: named(2, 5, 3), Leases: []impl.Lease{{Id: 1, Until: 30}, half, pinning(3, 20, false, 5, 9), pinning(7, 30, true, 1, greatestDigest)}, Next: 9}
	after := func(at int, acked ...int64) impl.Catalog {
		return catalogWith(base, func(c *impl.Catalog) { c.Leases[at].Acked = acked })
	}
	makes(t, "ahead of what is Acked", base, hearing(2, 5), after(1, 5, 7), 1)
	makes(t, "behind what is Acked", base, hearing(2, 9), after(1, 7, 9), 1)
	makes(t, "it is Acked", base, hearing(2, 7), base, 1)
	makes(t, "it is Acked, the least", base, hearing(7, 1), base, 1)
	makes(t, "it is Acked, the greatest", base, hearing(7, greatestDigest), base, 1)
	for _, k := range []struct {
		why string
		calling
	}{
		{"no Pin", hearing(2, 6)}, {"a Pin of another", hearing(2, 1)}, {"there are no Pins", hearing(1, 5)}, {"0, there are no Pins", hearing(1, 0)}, {"0", hearing(2, 0)}, {"-1", hearing(2, -1)}, {"the greatest", hearing(2, math.MaxInt64)},
		{"it is over", hearing(3, 5)}, {"no such Lease", hearing(4, 5)}, {"an Id of 0", hearing(0, 5)}, {"an Id of -1", hearing(-1, 5)}, {"Next", hearing(9, 5)},
	} {
		refuses(t, k.why, base, k.calling)
	}
	pins := risingMarks(mostPins, 1, 21000000)
	full := impl.Catalog{Now: 20, Round: 3, Leases: []impl.Lease{pinning(3, 30, false, pins...)}, Next: 9}
	for i, p := range shuffled(pins, 7) {
		full = makesRight(t, "one after the other", full, hearing(3, p))
		if len(full.Leases[0].Acked) != i+1 {
			t.Fatalf("of %d Pins that were heard %d are Acked", i+1, len(full.Leases[0].Acked))
		}
	}
}

func TestCommittedIsWhatTheDocumentTells(t *testing.T) {
	lacks := pinning(2, 30, true, 5, 7, 9)
	lacks.Acked = nodes(5, 9)
	middle := pinning(4, 21, true, 5, 7, 9)
	middle.Root = 7
	base := impl.Catalog{Now: 20, Round: 3, Names: []impl.Name{{Text: "b", Root: 900, At: 3}, {Text: "d", Root: 7, At: 20}}, Leases: []impl.Lease{{Id: 1, Until: 30}, lacks, pinning(3, 20, true, 5, 9), middle, pinning(8, 30, true, greatestDigest), pinning(9, 30, false, 5)}, Next: 11}
	after := func(place int, name string, root int64, lease int) impl.Catalog {
		return catalogWith(base, func(c *impl.Catalog) {
			c.Names = slices.Insert(c.Names, place, impl.Name{Text: name, Root: root, At: 20})
			c.Leases = slices.Delete(c.Leases, lease, lease+1)
		})
	}
	makes(t, "ahead of others", base, committing(4, "a"), after(0, "a", 7, 3), 1)
	makes(t, "between others", base, committing(4, "c"), after(1, "c", 7, 3), 1)
	makes(t, "behind others", base, committing(8, "zzzzzzzzzzzz"), after(2, "zzzzzzzzzzzz", greatestDigest, 4), 1)
	makes(t, "one that is there begins it", base, committing(4, "ba"), after(1, "ba", 7, 3), 1)
	for _, k := range []struct {
		why string
		calling
	}{
		{"there is such a Name", committing(4, "b")}, {"there is such a Name, the last one", committing(8, "d")}, {"no Root", committing(1, "a")}, {"a Pin is not Acked", committing(2, "a")}, {"none is Acked", committing(9, "a")},
		{"it is over", committing(3, "a")}, {"no such Lease", committing(5, "a")}, {"an Id of 0", committing(0, "a")}, {"an Id of -1", committing(-1, "a")}, {"Next", committing(11, "a")},
	} {
		refuses(t, k.why, base, k.calling)
	}
	for _, name := range noNames() {
		refuses(t, "no Text of a Name", base, committing(4, name))
	}
	for _, name := range goodNames {
		makesRight(t, "a Text of a Name", base, committing(4, name))
	}
	for count := range mostNames + 1 {
		c := impl.Catalog{Now: 20, Round: 1, Names: named(count, 5, 3), Leases: []impl.Lease{middle}, Next: 9}
		got := makesRight(t, "so many Names", c, committing(4, "m"))
		if want := min(count+1, mostNames); len(got.Names) != want || len(got.Leases) != count/mostNames {
			t.Fatalf("with %d Names there are %d then, and %d Leases", count, len(got.Names), len(got.Leases))
		}
	}
}

// Of a Lease with each count of Pins, of which one is not Acked.
func TestCommittedOfOnePinThatIsNotAcked(t *testing.T) {
	for _, count := range []int{1, 2, 3, 50, mostPins} {
		pins := risingMarks(count, 5, 3)
		for lacking := range count {
			l := pinning(1, 30, true, pins...)
			l.Acked = slices.Delete(l.Acked, lacking, lacking+1)
			c := impl.Catalog{Round: 1, Leases: []impl.Lease{l}, Next: 2}
			refuses(t, "one Pin is not Acked", c, committing(1, "a"))
			heard := makesRight(t, "it is Acked", c, hearing(1, pins[lacking]))
			makes(t, "all are Acked", heard, committing(1, "a"), impl.Catalog{Round: 1, Names: []impl.Name{{Text: "a", Root: l.Root}}, Next: 2}, 1)
			if count < mostPins {
				fresh := makesRight(t, "a new Pin", heard, pinsOn(1, 4, 4))
				refuses(t, "the new Pin is not Acked", fresh, committing(1, "a"))
			}
		}
	}
}

func TestDeletedIsWhatTheDocumentTells(t *testing.T) {
	for _, count := range []int{1, 2, 3, mostNames} {
		c := impl.Catalog{Now: 20, Round: 3, Names: named(count, 5, 3), Leases: leased(2, 3, 30), Next: 9}
		for i, n := range c.Names {
			left := makes(t, "it is there", c, deleting(n.Text), catalogWith(c, func(c *impl.Catalog) { c.Names = slices.Delete(c.Names, i, i+1) }), 1)
			refuses(t, "it is there no more", left, deleting(n.Text))
		}
		for _, name := range append(noNames(), "a", "aaa", "zz", "ab"+"\x00", "z", "AA") {
			refuses(t, "it is not there", c, deleting(name))
		}
	}
	refuses(t, "there are none", impl.NewCatalog(), deleting("a"))
	refuses(t, "there are none, an empty text", impl.NewCatalog(), deleting(""))
}

func TestPassedIsWhatTheDocumentTells(t *testing.T) {
	base := impl.Catalog{Now: 20, Round: 3, Names: named(2, 5, 900), Leases: []impl.Lease{pinning(1, 30, false, 5), pinning(2, 19, true, 5, 7), {Id: 3, Until: 20}, pinning(4, 21, true, 9), {Id: 6, Until: impl.MaxTime}, pinning(7, 0, false, 3)}, Next: 9}
	after := func(to int64, left ...int) impl.Catalog {
		return catalogWith(base, func(c *impl.Catalog) {
			c.Now, c.Leases = to, nil
			for _, at := range left {
				c.Leases = append(c.Leases, base.Leases[at])
			}
		})
	}
	for _, k := range []struct {
		why    string
		to     int64
		wanted impl.Catalog
	}{
		{"to Now: those that are over go", 20, after(20, 0, 3, 4)}, {"one above Now", 21, after(21, 0, 4)}, {"to one below an Until", 29, after(29, 0, 4)}, {"to an Until", 30, after(30, 4)}, {"to one above an Until", 31, after(31, 4)},
		{"to one below MaxTime", impl.MaxTime - 1, after(impl.MaxTime-1, 4)}, {"to MaxTime", impl.MaxTime, after(impl.MaxTime)},
	} {
		makes(t, k.why, base, passing(k.to), k.wanted, 1)
	}
	refuses(t, "to one below Now", base, passing(19))
	refuses(t, "to 0", base, passing(0))
	for _, to := range noTimes {
		refuses(t, "to no time", base, passing(to))
	}
	end := impl.Catalog{Now: impl.MaxTime, Round: 1, Next: 1}
	makes(t, "to MaxTime again", end, passing(impl.MaxTime), end, 1)
	makes(t, "from 0 to 0", impl.NewCatalog(), passing(0), impl.NewCatalog(), 1)
}

func TestRootsAreWhatTheDocumentTells(t *testing.T) {
	for _, k := range []struct {
		why    string
		names  []impl.Name
		leases []impl.Lease
		roots  []int64
	}{
		{"nothing", nil, nil, nil},
		{"of Names, in the order of Roots, not of Texts", []impl.Name{{Text: "a", Root: 9}, {Text: "b", Root: 5}, {Text: "c", Root: 7}}, nil, nodes(5, 7, 9)},
		{"two Names have one", []impl.Name{{Text: "a", Root: 9}, {Text: "b", Root: 5}, {Text: "c", Root: 9}}, nil, nodes(5, 9)},
		{"a Lease without Pins", nil, leased(2, 1, 30), nil},
		{"all Pins of a Lease, not its Root alone", nil, []impl.Lease{pinning(1, 30, false, 5, 7, 9)}, nodes(5, 7, 9)},
		{"whatever is Acked", nil, []impl.Lease{pinning(1, 30, true, 5, 7, 9)}, nodes(5, 7, 9)},
		{"a Lease that ends now is over", nil, []impl.Lease{pinning(1, 20, true, 5, 7)}, nil},
		{"a Lease that ended", nil, []impl.Lease{pinning(1, 19, false, 5, 7), pinning(2, 0, false, 9)}, nil},
		{"a Lease that ends one later", nil, []impl.Lease{pinning(1, 21, false, 5, 7)}, nodes(5, 7)},
		{"of Leases that are over and that are not", nil, []impl.Lease{pinning(1, 21, false, 5, 7), pinning(2, 20, false, 6, 7), pinning(3, 30, false, 1, 7, 9)}, nodes(1, 5, 7, 9)},
		{"the Root of two Names, and a Pin of two Leases", []impl.Name{{Text: "a", Root: 7}, {Text: "b", Root: 7}}, []impl.Lease{pinning(1, 30, false, 5, 7), pinning(2, 30, false, 7, 9)}, nodes(5, 7, 9)},
		{"the Root of a Name that a Lease that is over has, too", []impl.Name{{Text: "a", Root: 7}}, []impl.Lease{pinning(1, 20, false, 5, 7)}, nodes(7)},
		{"the ends", []impl.Name{{Text: "a", Root: greatestDigest}}, []impl.Lease{pinning(1, 30, false, 1)}, nodes(1, greatestDigest)},
		{"a Name of a later time", []impl.Name{{Text: "a", Root: 7, At: impl.MaxTime}}, nil, nodes(7)},
	} {
		rootsAre(t, k.why, impl.Catalog{Now: 20, Round: 3, Names: k.names, Leases: k.leases, Next: 9}, k.roots...)
	}
	for _, c := range rightCatalogs() {
		rootsAre(t, "a catalog", c, rootsOf(c)...)
	}
	most := impl.Catalog{Round: 1, Names: named(mostNames, 1, 0), Next: 21}
	for i := range most.Names {
		most.Names[i].Root = int64(40000 - i)
	}
	for i := range int64(mostLeases) {
		most.Leases = append(most.Leases, pinning(i+1, 5, false, risingMarks(mostPins, 10+i, mostLeases)...))
	}
	if roots := impl.Roots(most); len(roots) != mostNames+mostLeases*mostPins {
		t.Errorf("as many as there may be are %d", len(roots))
	}
	rootsAre(t, "as many as there may be", most, rootsOf(most)...)
}

// Promise 15: what comes of a right Catalog is right, whatever is called, with ordinary arguments and edges.
func TestEachCallOfEachRightCatalog(t *testing.T) {
	did, refused := map[string]int{}, map[string]int{}
	for _, c := range rightCatalogs() {
		for _, k := range callingsFor(c) {
			makesRight(t, "a call", c, k)
			if _, answer := k.told(c); answer == k.refusal() {
				refused[k.what]++
			} else {
				did[k.what]++
			}
		}
	}
	for _, what := range []string{"Opened", "Pinned", "Heard", "Committed", "Deleted", "Passed"} {
		if did[what] < 20 || refused[what] < 20 {
			t.Errorf("the test's own calls of %s do something %d times, and nothing %d times", what, did[what], refused[what])
		}
	}
}

// commitsWell fails where a Name came of a Lease that is over, lacks a Root or has a Pin that is not Acked.
func commitsWell(t *testing.T, before, after impl.Catalog, k calling) {
	t.Helper()
	for _, n := range after.Names {
		if slices.Contains(before.Names, n) {
			continue
		}
		at := leaseAt(before, k.id)
		if k.what != "Committed" || at < 0 || n.Text != k.name || n.At != before.Now {
			t.Fatalf("%s on %s makes the Name %q", k.shown(), catalogShown(before), n.Text)
		}
		l := before.Leases[at]
		for _, p := range l.Pins {
			if !slices.Contains(l.Acked, p) {
				t.Fatalf("%s on %s: %d is not Acked", k.shown(), catalogShown(before), p)
			}
		}
		if l.Root == 0 || n.Root != l.Root || leaseAt(after, k.id) >= 0 {
			t.Fatalf("%s on %s makes %s", k.shown(), catalogShown(before), catalogShown(after))
		}
	}
}

// Whatever few calls are made, in any order, each Catalog that comes is gone on from once.
func TestACatalogStaysRightWhateverIsCalled(t *testing.T) {
	calls := []calling{opening(2), opening(1), pinsOn(1, 7, 5, 7), pinsOn(1, 3, 7, 3), pinsOn(2, 5, 5), hearing(1, 5), hearing(1, 7), hearing(1, 3), hearing(2, 5), committing(1, "b"), committing(2, "b"), committing(2, "a"), deleting("b"), deleting("a"), passing(1), passing(2)}
	starts := []impl.Catalog{impl.NewCatalog(), {Now: impl.MaxTime - 2, Round: 1, Next: 1}, {Round: 1, Names: named(mostNames-1, 9, 0), Next: 1}}
	for n, start := range starts {
		known := map[string]bool{catalogShown(start): true}
		row, committed := []impl.Catalog{start}, 0
		for i := 0; i < len(row); i++ {
			for _, k := range calls {
				if k.what == "Passed" && start.Now > 0 {
					k.n += start.Now
				}
				next := makesRight(t, "in a row", row[i], k)
				commitsWell(t, row[i], next, k)
				if key := catalogShown(next); !known[key] && len(next.Leases) <= 2 && len(row) < 3000 {
					known[key] = true
					row = append(row, next)
					if len(next.Names) > len(start.Names) {
						committed++
					}
				}
			}
		}
		if len(row) < 500 || committed < 20 {
			t.Errorf("from start %d the test's own calls come to %d Catalogs, %d with a new Name", n, len(row), committed)
		}
	}
}

// A history is what the tests themselves have seen of a Catalog: what was Pinned and Heard, by Lease.
type history struct {
	pinned map[int64]map[int64]bool
	heard  map[int64]map[int64]bool
}

// sees takes a call that did something; it fails where a Lease is Committed of which a Pin was never heard.
func (h history) sees(t *testing.T, k calling) {
	t.Helper()
	switch k.what {
	case "Pinned":
		if h.pinned[k.id] == nil {
			h.pinned[k.id], h.heard[k.id] = map[int64]bool{}, map[int64]bool{}
		}
		for _, p := range k.pins {
			h.pinned[k.id][p] = true
		}
	case "Heard":
		h.heard[k.id][k.n] = true
	case "Committed":
		if len(h.pinned[k.id]) == 0 {
			t.Fatalf("%s: nothing was Pinned", k.shown())
		}
		for p := range h.pinned[k.id] {
			if !h.heard[k.id][p] {
				t.Fatalf("%s: %d was never heard", k.shown(), p)
			}
		}
	}
}

// Long rows of calls, in which Catalogs become full, and lose much again.
func TestACatalogStaysRightForLong(t *testing.T) {
	for seed, span := range []int64{40, 100, 400, 4000} {
		state := uint32(seed)*7919 + 1
		next := func(below int64) int64 {
			state = state*1664525 + 1013904223
			return int64(state>>8) % below
		}
		c, h := impl.NewCatalog(), history{map[int64]map[int64]bool{}, map[int64]map[int64]bool{}}
		names, leases, committed, deleted := 0, 0, 0, 0
		for range 4000 {
			id := c.Next - 1 - next(22)
			if len(c.Leases) > 0 && next(4) > 0 {
				id = c.Leases[next(int64(len(c.Leases)))].Id
			}
			k := calling{id: id}
			switch pick := next(20); {
			case pick < 2:
				k = opening(1 + next(span))
			case pick < 4:
				pins := nodes(1+next(4), 1+next(4))
				k = pinsOn(id, pins[next(2)], pins...)
			case pick < 13:
				k = hearing(id, 1+next(5))
			case pick < 18:
				k = committing(id, string([]byte{byte('a' + next(5)), byte('a' + next(12))}))
			case pick < 19 && next(4) == 0:
				k = deleting(string([]byte{byte('a' + next(5)), byte('a' + next(12))}))
			case pick == 19 && next(3) == 0:
				k = passing(c.Now + next(4))
			default:
				continue
			}
			after := makesRight(t, "in a long row", c, k)
			commitsWell(t, c, after, k)
			if _, answer := k.told(c); answer != k.refusal() {
				h.sees(t, k)
				committed += max(0, len(after.Names)-len(c.Names))
				deleted += max(0, len(c.Names)-len(after.Names))
			}
			c = after
			names, leases = max(names, len(c.Names)), max(leases, len(c.Leases))
		}
		if committed < 20 || deleted < 5 || seed == 3 && (names < mostNames || leases < mostLeases) {
			t.Errorf("with seed %d the test's own Catalog had up to %d Names and %d Leases, %d were Committed, %d Deleted", seed, names, leases, committed, deleted)
		}
	}
}

// Who is over can do nothing any more, and has no Pins among Roots, whether it is there still or has gone.
func TestWhoIsOverCanDoNothing(t *testing.T) {
	for _, until := range []int64{1, 10, 65536, impl.MaxTime - 1, impl.MaxTime} {
		for _, now := range []int64{until - 1, until, min(until+1, impl.MaxTime)} {
			l := pinning(3, until, true, 5, 7)
			lacking := pinning(4, until, false, 11, 13)
			c := impl.Catalog{Now: now, Round: 2, Names: named(1, 9, 0), Leases: []impl.Lease{l, lacking}, Next: 6}
			calls := []calling{pinsOn(3, 5, 5), pinsOn(3, 1, 1), hearing(3, 5), hearing(4, 11), committing(3, "new")}
			if now < until {
				rootsAre(t, "it is not over", c, 5, 7, 9, 11, 13)
				for _, k := range calls {
					if _, answer := k.called(c); answer != 1 {
						t.Fatalf("%s on %s is refused", k.shown(), catalogShown(c))
					}
				}
				continue
			}
			rootsAre(t, "it is over", c, 9)
			gone, _ := impl.Passed(c, now)
			for _, k := range calls {
				refuses(t, "it is over", c, k)
				refuses(t, "it is over, and has gone", gone, k)
			}
			rootsAre(t, "it is over, and has gone", gone, 9)
		}
	}
}

// roomyCatalog is a copy with room behind each list, Texts that lie on rows of bytes, and what fails where any of that is written into.
func roomyCatalog(given impl.Catalog) (impl.Catalog, func(*testing.T, string)) {
	var checks []func(*testing.T, string)
	c := given
	lying := slices.Clone(given.Names)
	for i, n := range lying {
		row, picture := roomy([]byte(n.Text), '*')
		lying[i].Text = over(row)
		checks = append(checks, func(t *testing.T, what string) { stays(t, what+", a Text", row, picture) })
	}
	names, picture := roomy(lying, impl.Name{Text: "filler", Root: 42, At: 42})
	checks = append(checks, func(t *testing.T, what string) { stays(t, what+", the Names", names, picture) })
	leases, _ := roomy(given.Leases, pinning(42, 42, true, 41, 42))
	for i := range leases {
		for _, list := range []*[]int64{&leases[i].Pins, &leases[i].Acked} {
			some, picture := roomy(*list, 42)
			*list = some
			checks = append(checks, func(t *testing.T, what string) { stays(t, what+", what a Lease has", some, picture) })
		}
	}
	whole := leases[:cap(leases)]
	all := slices.Clone(whole)
	checks = append(checks, func(t *testing.T, what string) {
		t.Helper()
		for i, l := range whole {
			if l.Id != all[i].Id || l.Until != all[i].Until || l.Root != all[i].Root || !sameList(l.Pins, all[i].Pins) || !sameList(l.Acked, all[i].Acked) {
				t.Errorf("%s, the Leases: number %d was %v and is %v", what, i, all[i], l)
			}
		}
	})
	c.Names, c.Leases = names, leases
	return c, func(t *testing.T, what string) {
		t.Helper()
		for _, check := range checks {
			check(t, what)
		}
	}
}

// sameList tells whether two lists are alike and lie at one place.
func sameList(a, b []int64) bool {
	return slices.Equal(a, b) && unsafe.SliceData(a) == unsafe.SliceData(b)
}

func TestCatalogsLeaveTheirArguments(t *testing.T) {
	given := rightCatalogs()
	for i, w := range wrongCatalogs() {
		if len(w.catalog.Leases) < 100 && i%3 == 0 {
			given = append(given, w.catalog)
		}
	}
	for _, one := range given {
		c, unchanged := roomyCatalog(one)
		impl.CatalogOk(c)
		impl.Roots(c)
		unchanged(t, "CatalogOk and Roots")
		calls := callingsFor(ordinaryCatalog())
		if catalogRight(one) {
			calls = callingsFor(one)
		}
		for i, k := range calls {
			pins, picture := roomy(k.pins, 42)
			row, pictureOfName := roomy([]byte(k.name), '*')
			k.pins, k.name = pins, over(row)
			k.called(c)
			stays(t, "the pins", pins, picture)
			stays(t, "the name", row, pictureOfName)
			if i%16 == 0 {
				unchanged(t, k.shown())
			}
		}
		unchanged(t, "all calls")
		if t.Failed() {
			return
		}
	}
}

// Names, Leases, Pins and what is Acked may be pieces of greater lists.
func TestCatalogsDoNotLookIntoTheRoomBehind(t *testing.T) {
	whole := fullCatalog()
	for _, size := range []int{0, 1, 7, mostLeases - 1} {
		c := catalogCopy(whole)
		c.Names, c.Leases = c.Names[:size], c.Leases[:size]
		for i, l := range c.Leases {
			root := l.Pins[0]
			c.Leases[i].Pins, c.Leases[i].Acked, c.Leases[i].Root = l.Pins[:size+1], l.Acked[:min(len(l.Acked), size)], root
		}
		picture := catalogCopy(c)
		behind := catalogCopy(impl.Catalog{Names: c.Names[:mostNames], Leases: c.Leases[:mostLeases]})
		for _, k := range append(callingsFor(c), deleting(whole.Names[size].Text), committing(whole.Leases[size].Id, "new"), hearing(whole.Leases[0].Id, whole.Leases[0].Pins[size+1])) {
			makesRight(t, "others lie behind", c, k)
		}
		rootsAre(t, "others lie behind", c, rootsOf(picture)...)
		if !sameCatalog(c, picture) || !sameCatalog(impl.Catalog{Names: c.Names[:mostNames], Leases: c.Leases[:mostLeases]}, behind) {
			t.Fatalf("what lies behind %d is changed", size)
		}
	}
}

// reachesInto tells whether two lists, with the room behind them, lie in the same memory.
func reachesInto[T any](a, b []T) bool {
	if cap(a) == 0 || cap(b) == 0 {
		return false
	}
	size := unsafe.Sizeof(a[:1][0])
	p, q := uintptr(unsafe.Pointer(unsafe.SliceData(a))), uintptr(unsafe.Pointer(unsafe.SliceData(b)))
	return p < q+uintptr(cap(b))*size && q < p+uintptr(cap(a))*size
}

// numberListsOf are all lists of numbers that a Catalog has.
func numberListsOf(c impl.Catalog) [][]int64 {
	var lists [][]int64
	for _, l := range c.Leases {
		lists = append(lists, l.Pins, l.Acked)
	}
	return lists
}

// catalogsApart fails where an answer shares memory with another Catalog, with these pins or this name, or two of its lists do.
func catalogsApart(t *testing.T, what string, got, other impl.Catalog, pins []int64, name string) {
	t.Helper()
	if reachesInto(got.Names, other.Names) || reachesInto(got.Leases, other.Leases) {
		t.Fatalf("%s: the Names or the Leases share memory", what)
	}
	lists, others := numberListsOf(got), append(numberListsOf(other), pins)
	for i, list := range lists {
		for _, second := range append(others, lists[:i]...) {
			if reachesInto(list, second) {
				t.Fatalf("%s: a list of a Lease shares memory", what)
			}
		}
	}
	for i, n := range got.Names {
		apart(t, what, n.Text, name)
		for _, second := range other.Names {
			apart(t, what, n.Text, second.Text)
		}
		for _, second := range got.Names[:i] {
			apart(t, what, n.Text, second.Text)
		}
	}
	roomIsEmpty(t, what, got)
}

// roomIsEmpty fails where what went, or moved, lies in the room behind a list of an answer.
func roomIsEmpty(t *testing.T, what string, got impl.Catalog) {
	t.Helper()
	for _, n := range got.Names[len(got.Names):cap(got.Names)] {
		if n != (impl.Name{}) {
			t.Fatalf("%s: behind the Names lies %q", what, n.Text)
		}
	}
	for _, l := range got.Leases[len(got.Leases):cap(got.Leases)] {
		if l.Pins != nil || l.Acked != nil {
			t.Fatalf("%s: behind the Leases lies %d", what, l.Id)
		}
	}
}

// Whether something is done or not.
func TestCatalogsAreNewMemory(t *testing.T) {
	for n, given := range rightCatalogs() {
		if n > 3 && n%7 > 0 {
			continue
		}
		for i, k := range callingsFor(given) {
			if n == 3 && i%9 > 0 {
				continue
			}
			c, unchanged := roomyCatalog(given)
			k.name, k.pins = strings.Clone(k.name), slices.Clone(k.pins)
			one, _ := k.called(c)
			other, _ := k.called(c)
			catalogsApart(t, k.shown()+" and its arguments", one, c, k.pins, k.name)
			catalogsApart(t, "two times "+k.shown(), one, other, nil, "")
			wanted := catalogCopy(other)
			scribbleCatalog(one)
			unchanged(t, k.shown()+", scribbled over")
			if !sameCatalog(other, wanted) || t.Failed() {
				t.Fatalf("%s on %s: what is written into an answer is seen elsewhere", k.shown(), catalogShown(given))
			}
		}
	}
}

// scribbleCatalog writes over all lists of a Catalog.
func scribbleCatalog(c impl.Catalog) {
	for _, list := range numberListsOf(c) {
		scribble(list, 77)
	}
	scribble(c.Names, impl.Name{Text: "scribble", Root: 77, At: 77})
	scribble(c.Leases, impl.Lease{Id: 77})
}

func TestRootsAreNewMemory(t *testing.T) {
	list := append(rightCatalogs(), impl.Catalog{Round: 1, Leases: []impl.Lease{pinning(1, 5, true, 5, 7, 9)}, Next: 2})
	for _, given := range list {
		c, unchanged := roomyCatalog(given)
		one, other := impl.Roots(c), impl.Roots(c)
		if reachesInto(one, other) {
			t.Fatalf("two times Roots of %s share memory", catalogShown(given))
		}
		for _, some := range numberListsOf(c) {
			if reachesInto(one, some) {
				t.Fatalf("Roots of %s share memory with a Lease", catalogShown(given))
			}
		}
		scribble(one, 77)
		unchanged(t, "Roots, scribbled over")
		if !slices.Equal(other, rootsOf(given)) {
			t.Fatalf("two times Roots of %s share memory", catalogShown(given))
		}
	}
}

// A Text of one byte is made by its conversion, which lies where all such texts do.
func TestNamesOfOneLetterAreNewMemory(t *testing.T) {
	for b := byte('a'); b <= 'z'; b++ {
		text := string([]byte{b})
		c := impl.Catalog{Round: 1, Leases: []impl.Lease{pinning(1, 5, true, 5)}, Next: 2}
		one, _ := impl.Committed(c, 1, text)
		other, _ := impl.Committed(c, 1, text)
		next, _ := impl.Passed(one, 3)
		left, _ := impl.Deleted(next, "none")
		all := []string{text, one.Names[0].Text, other.Names[0].Text, next.Names[0].Text, left.Names[0].Text}
		for i, s := range all {
			for _, before := range all[:i] {
				apart(t, "a Text of one letter", s, before)
			}
		}
	}
}

func TestCatalogsKeepNothingFromCallToCall(t *testing.T) {
	c := ordinaryCatalog()
	for range 3 {
		makesRight(t, "a Lease", c, opening(5))
		makes(t, "the same Id again", c, opening(7), catalogWith(c, func(c *impl.Catalog) { c.Leases, c.Next = append(c.Leases, leased(1, 12, 27)...), 13 }), 12)
		refuses(t, "it was Opened on another", c, pinsOn(12, 5, 5))
		makesRight(t, "Pins", c, pinsOn(5, 7, 7))
		refuses(t, "it was Pinned on another", c, hearing(5, 7))
		makesRight(t, "a Name", c, committing(9, "new"))
		refuses(t, "it was Committed on another", c, deleting("new"))
		makesRight(t, "the Lease has gone on another", c, committing(9, "new"))
		makesRight(t, "Names go", c, deleting("b"))
		makesRight(t, "it went from another", c, deleting("b"))
		makesRight(t, "time passes", c, passing(impl.MaxTime))
		makesRight(t, "it passed on another", c, passing(21))
		makes(t, "no right one", impl.Catalog{}, opening(5), impl.Catalog{}, -1)
		rootsAre(t, "all", c, 3, 5, 7, 9, 11, 40, 900)
	}
}
