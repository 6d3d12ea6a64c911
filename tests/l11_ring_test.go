package tests

import (
	"cmp"
	"math"
	"slices"
	"strconv"
	"testing"

	"loop.example/g00260/impl"
)

// ringSize is how many places a ring has, mostDots how many Dots at most, mostNodes how many nodes there may be, mostOfNode how many Dots of each when it is new.
const ringSize = 65536
const mostDots = 128
const mostNodes = 16
const mostOfNode = 8

// The ends of int64 and numbers that end like those within bounds.
var farNumbers = []int64{math.MaxInt64, math.MaxInt64 - 1, math.MinInt64, math.MinInt64 + 1, math.MaxInt32, math.MinInt32, 1 << 32, 1<<32 + 1, 1<<32 + 5, -1 << 32, 1<<32 - 1, 1 << 16, 1<<16 + 1}

// wrongPlaces are those that no Dot may be At, wrongNodes those that there are not, wrongKeys those that nobody owns, wrongDots how many a node can't have when a ring is new.
var wrongPlaces = append([]int64{-1, -2, -ringSize, ringSize, ringSize + 1, 2 * ringSize}, farNumbers...)
var wrongNodes = append([]int64{-1, -2, -mostNodes, mostNodes, mostNodes + 1, 100, 256, 257}, farNumbers...)
var wrongKeys = []int64{-1, -2, -5, -ringSize + 1, -ringSize, -ringSize - 1, math.MinInt32, -1 << 32, math.MinInt64, math.MinInt64 + 1, math.MinInt64 + 5}
var wrongDots = append([]int64{0, -1, -2, -mostOfNode, mostOfNode + 1, mostOfNode + 2, mostNodes, mostDots, 256, 257}, farNumbers...)

// dots are Dots of places and nodes by turns, nodes are numbers as a list.
func dots(pairs ...int64) []impl.Dot {
	var list []impl.Dot
	for i := 0; i < len(pairs); i += 2 {
		list = append(list, impl.Dot{At: pairs[i], Node: pairs[i+1]})
	}
	return list
}

func nodes(list ...int64) []int64 { return list }

// allNodes are those that there are.
func allNodes() []int64 {
	return nodes(0, 1, 2, 3, 4, 5, 6, 7, 8, 9, 10, 11, 12, 13, 14, 15)
}

// spread are so many Dots from a place on, each so far behind the last one, with these nodes by turns.
func spread(count int, from, step int64, among ...int64) []impl.Dot {
	var list []impl.Dot
	for i := range count {
		list = append(list, impl.Dot{At: from + int64(i)*step, Node: among[i%len(among)]})
	}
	return list
}

// scattered are so many Dots at unlike places here and there, of nodes here and there.
func scattered(count int, seed uint32, kinds int64) []impl.Dot {
	var list []impl.Dot
	taken := map[int64]bool{}
	for len(list) < count {
		seed = seed*1664525 + 1013904223
		if at := int64(seed >> 16); !taken[at] {
			taken[at] = true
			list = append(list, impl.Dot{At: at, Node: int64(seed>>3) % kinds})
		}
	}
	slices.SortFunc(list, func(a, b impl.Dot) int { return cmp.Compare(a.At, b.At) })
	return list
}

// ringRight tells RingOk.
func ringRight(list []impl.Dot) bool {
	for i, d := range list {
		if d.At < 0 || d.At > 65535 || d.Node < 0 || d.Node > 15 || i > 0 && list[i-1].At >= d.At {
			return false
		}
	}
	return len(list) >= 1 && len(list) <= mostDots
}

// newRingOf tells NewRing of right nodes and dots: who has each place, then the places in order.
func newRingOf(some []int64, count int64) []impl.Dot {
	has := map[int64]int64{}
	for _, node := range some {
		for k := range int(count) {
			at := bigDigest("node"+strconv.Itoa(int(node))+"."+strconv.Itoa(k)) % ringSize
			if _, taken := has[at]; !taken {
				has[at] = node
			}
		}
	}
	var list []impl.Dot
	for at := range int64(ringSize) {
		if node, there := has[at]; there {
			list = append(list, impl.Dot{At: at, Node: node})
		}
	}
	return list
}

// ownersOf tells all Owners of a ring: the Dots by how far round the ring each is from the key, and of each Node the nearest.
func ownersOf(list []impl.Dot, key int64) []int64 {
	way := func(d impl.Dot) int64 { return (d.At - key%ringSize + ringSize) % ringSize }
	other := slices.SortedFunc(slices.Values(list), func(a, b impl.Dot) int { return cmp.Compare(way(a), way(b)) })
	var owners []int64
	for _, d := range other {
		if !slices.Contains(owners, d.Node) {
			owners = append(owners, d.Node)
		}
	}
	return owners
}

// ownerOf tells Owner of a ring, place by place.
func ownerOf(list []impl.Dot, key int64) int64 {
	for _, d := range list {
		if d.At >= key%ringSize {
			return d.Node
		}
	}
	return list[0].Node
}

// leftOf tells Without of a ring.
func leftOf(list []impl.Dot, node int64) []impl.Dot {
	var left []impl.Dot
	for _, d := range list {
		if d.Node != node {
			left = append(left, d)
		}
	}
	return left
}

// unlikeNodes are those of a ring, rising.
func unlikeNodes(list []impl.Dot) []int64 {
	var all []int64
	for _, d := range list {
		all = append(all, d.Node)
	}
	slices.Sort(all)
	return slices.Compact(all)
}

// dotsShown are the first Dots of a list, and how many it has, for one to read.
func dotsShown(list []impl.Dot) string {
	text := strconv.Itoa(len(list)) + " Dots"
	for _, d := range list[:min(len(list), 8)] {
		text += " " + strconv.FormatInt(d.At, 10) + ":" + strconv.FormatInt(d.Node, 10)
	}
	return text
}

// ringOf is NewRing, which has to be right.
func ringOf(t *testing.T, count int64, some ...int64) []impl.Dot {
	t.Helper()
	list, is := impl.NewRing(some, count)
	if !is || !ringRight(list) {
		t.Fatalf("NewRing(%v, %d) is %v, %v", some, count, list, is)
	}
	return list
}

// newRings are those that NewRing makes, from the least to the greatest.
func newRings(t *testing.T) [][]impl.Dot {
	t.Helper()
	all := allNodes()
	return [][]impl.Dot{
		ringOf(t, 1, 0), ringOf(t, 1, 15), ringOf(t, 8, 7), ringOf(t, 2, 0, 1), ringOf(t, 4, 0, 1, 2, 3), ringOf(t, 1, 15, 0, 9), ringOf(t, 3, 5, 1, 12, 8, 2),
		ringOf(t, 1, all...), ringOf(t, 4, reversed(all)...), ringOf(t, 8, all...), ringOf(t, 8, shuffled(all, 3)...), ringOf(t, 8, all[1:]...),
	}
}

// handRings are rings that nobody would get from NewRing.
func handRings() [][]impl.Dot {
	list := [][]impl.Dot{
		dots(0, 0), dots(0, 15), dots(65535, 0), dots(65535, 15), dots(1, 3), dots(65534, 4), dots(32768, 9),
		dots(0, 1, 65535, 2), dots(0, 2, 1, 1), dots(65534, 1, 65535, 2), dots(0, 1, 65535, 1), dots(0, 15, 1, 15, 2, 15),
		dots(10, 1, 20, 2, 30, 3), dots(10, 1, 20, 1, 30, 2), dots(10, 1, 20, 2, 30, 1), dots(10, 2, 20, 1, 30, 1), dots(10, 1, 20, 2, 30, 2, 40, 1), dots(10, 1, 20, 1, 30, 2, 40, 1, 50, 3, 60, 3, 70, 1),
		spread(mostDots, 0, 1, 0), spread(mostDots, 0, 1, 0, 1, 2), spread(mostDots, ringSize-mostDots, 1, 15, 0), spread(mostDots, 0, 512, 3, 3, 3, 4, 4, 5, 3), spread(mostDots, 511, 512, 9, 8, 7, 6, 5, 4, 3, 2, 1, 0, 15, 14, 13, 12, 11, 10), spread(mostDots-1, 7, 500, 4, 4, 2),
		append(spread(64, 100, 3, 6), spread(64, 40000, 3, 7)...), append(spread(127, 100, 3, 6), impl.Dot{At: 65535, Node: 7}), append(dots(0, 7), spread(127, 100, 3, 6)...),
	}
	for seed := range uint32(12) {
		list = append(list, scattered(1+int(seed*seed)%mostDots, seed, 1+int64(seed)%16), scattered(mostDots, seed, 2+int64(seed)))
	}
	return list
}

// someRings are rings of all shapes.
func someRings(t *testing.T) [][]impl.Dot {
	t.Helper()
	return append(newRings(t), handRings()...)
}

// A wrongRing is a list that is no ring.
type wrongRing struct {
	why  string
	list []impl.Dot
}

// withDot is the list with another Dot at this place of it.
func withDot(list []impl.Dot, place int, d impl.Dot) []impl.Dot {
	other := slices.Clone(list)
	other[place] = d
	return other
}

// wrongRings are lists that are no rings, by all there is to be wrong, and wherever it is.
func wrongRings() []wrongRing {
	wrong := []wrongRing{
		{"no Dots, nil", nil}, {"no Dots", []impl.Dot{}}, {"one Dot too many", spread(mostDots+1, 0, 1, 0)}, {"one Dot too many, of many nodes", scattered(mostDots+1, 1, 16)}, {"two Dots too many", spread(mostDots+2, 0, 1, 0, 1)},
		{"256 Dots", spread(256, 0, 2, 0, 1)}, {"a Dot at every place", spread(ringSize, 0, 1, 0, 1, 2)}, {"far too many zero Dots", make([]impl.Dot, 100000)}, {"two zero Dots", make([]impl.Dot, 2)}, {"128 zero Dots", make([]impl.Dot, mostDots)},
	}
	for _, list := range [][]impl.Dot{dots(5, 1), dots(5, 1, 70, 2), dots(5, 1, 70, 2, 900, 1), spread(mostDots, 300, 9, 0, 1, 2)} {
		for _, place := range slices.Compact([]int{0, len(list) / 2, len(list) - 1}) {
			d := list[place]
			for _, at := range wrongPlaces {
				wrong = append(wrong, wrongRing{"an At is out of range", withDot(list, place, impl.Dot{At: at, Node: d.Node})})
			}
			for _, node := range wrongNodes {
				wrong = append(wrong, wrongRing{"a Node is out of range", withDot(list, place, impl.Dot{At: d.At, Node: node})})
			}
			if place > 0 {
				before := list[place-1].At
				wrong = append(wrong, wrongRing{"two Dots are alike", withDot(list, place, list[place-1])})
				for _, at := range []int64{before, before - 1, 0} {
					wrong = append(wrong, wrongRing{"an At does not rise", withDot(list, place, impl.Dot{At: at, Node: d.Node})}, wrongRing{"an At does not rise, with another Node", withDot(list, place, impl.Dot{At: at, Node: d.Node + 7})})
				}
			}
			if place < len(list)-1 {
				wrong = append(wrong, wrongRing{"the first one is greater than the last one", withDot(list, place, impl.Dot{At: 65535, Node: d.Node})})
			}
		}
	}
	for _, list := range [][]impl.Dot{dots(5, 1, 70, 2), spread(mostDots, 300, 9, 0, 1, 2)} {
		wrong = append(wrong, wrongRing{"all fall", slices.Collect(func(yield func(impl.Dot) bool) {
			for i := len(list) - 1; i >= 0 && yield(list[i]); i-- {
			}
		})})
	}
	return wrong
}

// keysOf are keys all round a ring: the edges, where each Dot is, one below and one above, and some that go round again and again.
func keysOf(list []impl.Dot) []int64 {
	keys := []int64{0, 1, 2, 32767, 32768, 65533, 65534, 65535, 65536, 65537, 65538, 131071, 131072, 131073, math.MaxInt32, 1 << 31, 1 << 32, 1<<32 + 1, 1<<62 - 1, 1 << 62, math.MaxInt64 - 65536, math.MaxInt64 - 65535, math.MaxInt64 - 1, math.MaxInt64}
	for _, d := range list {
		for _, key := range []int64{d.At - 1, d.At, d.At + 1} {
			if key >= 0 {
				keys = append(keys, key, key+ringSize, key+math.MaxInt64/ringSize*ringSize-ringSize)
			}
		}
	}
	for seed := range int64(20) {
		keys = append(keys, seed*3277, seed*987654321987)
	}
	return keys
}

// ownedBy fails where Owner is not this one.
func ownedBy(t *testing.T, why string, list []impl.Dot, key, wanted int64) {
	t.Helper()
	if node := impl.Owner(list, key); node != wanted {
		t.Fatalf("%s: Owner of %d in %s is %d, not %d", why, key, dotsShown(list), node, wanted)
	}
}

// ownersAre fails where Owners are not these.
func ownersAre(t *testing.T, why string, list []impl.Dot, key, n int64, wanted []int64) {
	t.Helper()
	if owners := impl.Owners(list, key, n); !slices.Equal(owners, wanted) {
		t.Fatalf("%s: %d Owners of %d in %s are %v, not %v", why, n, key, dotsShown(list), owners, wanted)
	}
}

// leaves fails where Without is not this list.
func leaves(t *testing.T, why string, list []impl.Dot, node int64, wanted []impl.Dot) {
	t.Helper()
	if left := impl.Without(list, node); !slices.Equal(left, wanted) {
		t.Fatalf("%s: %s without %d are %s, not %s", why, dotsShown(list), node, dotsShown(left), dotsShown(wanted))
	}
}

// grants fails where NewRing is not this ring.
func grants(t *testing.T, why string, some []int64, count int64, wanted []impl.Dot) {
	t.Helper()
	if list, is := impl.NewRing(some, count); !is || !slices.Equal(list, wanted) {
		t.Fatalf("%s: NewRing(%v, %d) is %v, %v, not %v", why, some, count, list, is, wanted)
	}
}

// grantsNot fails where NewRing is not nothing and false.
func grantsNot(t *testing.T, why string, some []int64, count int64) {
	t.Helper()
	if list, is := impl.NewRing(some, count); is || len(list) != 0 {
		t.Fatalf("%s: NewRing of %d nodes, %v, and %d is %v, %v", why, len(some), some[:min(len(some), 20)], count, list, is)
	}
}

func TestRingOkOfRings(t *testing.T) {
	for _, list := range someRings(t) {
		if !impl.RingOk(list) {
			t.Errorf("a ring of %d, %v, is not RingOk", len(list), list)
		}
		for _, part := range [][]impl.Dot{list[:1], list[len(list)-1:], list[len(list)/2:]} {
			if !impl.RingOk(part) {
				t.Errorf("%v, in a row of a ring, are not RingOk", part)
			}
		}
	}
	for node := range int64(mostNodes) {
		for _, at := range []int64{0, 1, 65534, 65535} {
			if !impl.RingOk(dots(at, node)) {
				t.Errorf("one Dot at %d of %d is not RingOk", at, node)
			}
		}
	}
	for count := 1; count <= mostDots+5; count++ {
		if list := scattered(count, uint32(count), 16); impl.RingOk(list) != (count <= mostDots) {
			t.Errorf("RingOk of %d Dots is %v", count, !(count <= mostDots))
		}
	}
}

// Of every list of a few Dots, right ones and wrong ones, in any order.
func TestRingOkOfEveryShortList(t *testing.T) {
	few := dots(0, 0, 0, 1, 1, 15, 2, 0, 65535, 3, 65536, 3, -1, 2, 3, 16, 4, -1)
	texts("\x00\x01\x02\x03\x04\x05\x06\x07\x08", 5, func(which string) {
		var list []impl.Dot
		for _, i := range []byte(which) {
			list = append(list, few[i])
		}
		if impl.RingOk(list) != ringRight(list) {
			t.Fatalf("RingOk(%v) is %v", list, !ringRight(list))
		}
	})
}

func TestEachFunctionOfWhatIsNoRing(t *testing.T) {
	for _, w := range wrongRings() {
		if impl.RingOk(w.list) {
			t.Errorf("%s: RingOk of %s is true", w.why, dotsShown(w.list))
		}
		for _, key := range []int64{0, 1, 5, 70, 65535, 65536, math.MaxInt64, -1, math.MinInt64} {
			ownedBy(t, w.why, w.list, key, -1)
			for _, n := range []int64{1, 2, math.MaxInt64, 0, -1} {
				ownersAre(t, w.why, w.list, key, n, nil)
			}
		}
		for _, node := range []int64{0, 1, 2, 15, 16, -1, math.MaxInt64, math.MinInt64} {
			leaves(t, w.why, w.list, node, nil)
		}
	}
}

func TestNewRingIsWhatTheDocumentTells(t *testing.T) {
	for _, c := range []struct {
		why    string
		nodes  []int64
		count  int64
		wanted []impl.Dot
	}{
		{"one Dot", nodes(0), 1, dots(23326, 0)},
		{"one Dot of the greatest", nodes(15), 1, dots(50906, 15)},
		{"all Dots of one", nodes(9), 8, dots(62798, 9, 62799, 9, 62800, 9, 62801, 9, 62802, 9, 62803, 9, 62804, 9, 62805, 9)},
		{"all Dots of one with two digits", nodes(14), 8, dots(10111, 14, 10112, 14, 10113, 14, 10114, 14, 10115, 14, 10116, 14, 10117, 14, 10118, 14)},
		{"two nodes", nodes(0, 1), 2, dots(23326, 0, 23327, 0, 64121, 1, 64122, 1)},
		{"two nodes, falling", nodes(1, 0), 2, dots(23326, 0, 23327, 0, 64121, 1, 64122, 1)},
		{"1 and 11 are two", nodes(1, 11), 1, dots(18799, 11, 64121, 1)},
		{"some", nodes(5, 3, 12), 3, dots(14638, 3, 14639, 3, 14640, 3, 30691, 5, 30692, 5, 30693, 5, 59594, 12, 59595, 12, 59596, 12)},
		{"all nodes", allNodes(), 1, dots(5950, 6, 10111, 14, 14638, 3, 18799, 11, 22003, 8, 23326, 0, 30691, 5, 34853, 13, 39379, 2, 43541, 10, 46744, 7, 50906, 15, 55433, 4, 59594, 12, 62798, 9, 64121, 1)},
	} {
		grants(t, c.why, c.nodes, c.count, c.wanted)
		if again := newRingOf(c.nodes, c.count); !slices.Equal(again, c.wanted) {
			t.Fatalf("%s: the test itself makes %v", c.why, again)
		}
	}
}

// Of each set of nodes, in several orders: a ring that is RingOk, with no more Dots than nodes times dots.
func TestNewRingOfEachSetOfNodes(t *testing.T) {
	for set := 1; set < 1<<mostNodes; set += 1 + set%61 {
		var some []int64
		for node := range int64(mostNodes) {
			if set>>node&1 == 1 {
				some = append(some, node)
			}
		}
		count := int64(1 + set%mostOfNode)
		wanted := newRingOf(some, count)
		for seed, order := range [][]int64{some, reversed(some), shuffled(some, uint32(set))} {
			list, is := impl.NewRing(order, count)
			if !is || !impl.RingOk(list) || len(list) > len(some)*int(count) {
				t.Fatalf("NewRing(%v, %d), order %d, is %v, %v", order, count, seed, list, is)
			}
			grants(t, "a set of nodes", order, count, wanted)
		}
	}
}

// All Dots that a new ring may have are at unlike places, so none of them ever finds its place taken, and each is there.
func TestNewRingHasEachDotOfEachTwoNodes(t *testing.T) {
	for a := range int64(mostNodes) {
		for b := range int64(mostNodes) {
			if a == b {
				continue
			}
			for count := int64(1); count <= mostOfNode; count++ {
				list := ringOf(t, count, a, b)
				grants(t, "two nodes", nodes(a, b), count, newRingOf(nodes(a, b), count))
				for _, node := range nodes(a, b) {
					for k := range count {
						d := impl.Dot{At: impl.Digest("node"+strconv.FormatInt(node, 10)+"."+strconv.FormatInt(k, 10)) % ringSize, Node: node}
						if !slices.Contains(list, d) {
							t.Fatalf("NewRing of %d and %d with %d dots, %v, lacks %v", a, b, count, list, d)
						}
					}
				}
			}
		}
	}
	all := allNodes()
	if list := ringOf(t, mostOfNode, all...); len(list) != mostDots {
		t.Errorf("NewRing of all nodes with the most dots has %d", len(list))
	}
}

func TestNewRingOfWrongNodes(t *testing.T) {
	all := allNodes()
	for count := int64(-1); count <= mostOfNode+1; count++ {
		grantsNot(t, "no nodes, nil", nil, count)
		grantsNot(t, "no nodes", nodes(), count)
		for _, node := range wrongNodes {
			for _, some := range [][]int64{{node}, {node, 1}, {1, node}, {1, node, 2}, append(slices.Clone(all[1:]), node), append(nodes(node), all[:15]...), append(slices.Clone(all), node)} {
				grantsNot(t, "a node is out of range", some, count)
			}
		}
		for _, node := range nodes(0, 1, 7, 14, 15) {
			for _, some := range [][]int64{{node, node}, {node, 3, node}, {3, node, node}, {node, node, 3}, append(slices.Clone(all), node), append(nodes(node), all...), append(slices.Clone(all[:15]), all[14])} {
				grantsNot(t, "two nodes are alike", some, count)
			}
		}
		grantsNot(t, "17 nodes", append(slices.Clone(all), 16), count)
		grantsNot(t, "all nodes twice", slices.Repeat(all, 2), count)
		grantsNot(t, "very many nodes", slices.Repeat(all, 50000), count)
		grantsNot(t, "very many that there are not", ordinal(100000), count)
		grantsNot(t, "zeros", make([]int64, 16), count)
	}
}

func TestNewRingOfWrongDots(t *testing.T) {
	for _, count := range wrongDots {
		for _, some := range [][]int64{nil, {}, {0}, {15}, {0, 1}, {3, 9, 2}, allNodes(), {0, 0}, {16}, {-1}} {
			grantsNot(t, "dots are out of range", some, count)
		}
	}
	for count := int64(1); count <= mostOfNode; count++ {
		if list := ringOf(t, count, 6); int64(len(list)) != count {
			t.Errorf("NewRing of one node with %d dots has %d", count, len(list))
		}
	}
}

func TestOwnerIsWhatTheDocumentTells(t *testing.T) {
	some := dots(10, 1, 20, 2, 30, 3)
	ends := dots(0, 4, 65535, 5)
	first, last := dots(0, 6), dots(65535, 7)
	made := ringOf(t, 2, 0, 1)
	for _, c := range []struct {
		why        string
		list       []impl.Dot
		key, owner int64
	}{
		{"0, below all", some, 0, 1}, {"1 below the first Dot", some, 9, 1}, {"just at the first Dot", some, 10, 1}, {"1 above the first Dot", some, 11, 2},
		{"1 below the second Dot", some, 19, 2}, {"just at the second Dot", some, 20, 2}, {"1 above the second Dot", some, 21, 3}, {"1 below the last Dot", some, 29, 3}, {"just at the last Dot", some, 30, 3}, {"1 above the last Dot", some, 31, 1},
		{"the last place", some, 65535, 1}, {"place 0 again", some, 65536, 1}, {"place 1 again", some, 65537, 1}, {"the first Dot again", some, 65546, 1}, {"1 above it again", some, 65547, 2}, {"the last Dot again", some, 65566, 3}, {"1 above it again", some, 65567, 1},
		{"the second Dot, many times round", some, 1<<62 + 20, 2}, {"1 above it, many times round", some, 1<<62 + 21, 3}, {"the greatest key", some, math.MaxInt64, 1}, {"a key that is negative when cut", some, 1<<31 + 15, 2},
		{"0 with a Dot there", ends, 0, 4}, {"1 with a Dot at 0", ends, 1, 5}, {"the place ahead of the last", ends, 65534, 5}, {"the last place with a Dot there", ends, 65535, 5}, {"round", ends, 65536, 4}, {"round and 1", ends, 65537, 5}, {"the greatest key, with a Dot there", ends, math.MaxInt64, 5}, {"one less", ends, math.MaxInt64 - 1, 5},
		{"the only Dot is at 0", first, 0, 6}, {"behind the only Dot", first, 1, 6}, {"behind the only Dot, the last place", first, 65535, 6}, {"round to the only Dot", first, 65536, 6}, {"the greatest", first, math.MaxInt64, 6},
		{"the only Dot is at the end", last, 0, 7}, {"at the only Dot", last, 65535, 7}, {"round", last, 65536, 7}, {"the greatest", last, math.MaxInt64, 7},
		{"a new ring", made, 5, 0}, {"a new ring, at a Dot", made, 23327, 0}, {"a new ring, 1 above", made, 23328, 1}, {"a new ring, at the last Dot", made, 64122, 1}, {"a new ring, 1 above the last one", made, 64123, 0}, {"a new ring, the last place", made, 65535, 0},
		{"-1", some, -1, -1}, {"-1, with a Dot at both ends", ends, -1, -1}, {"a ring's size below", some, -65536, -1}, {"the least", some, math.MinInt64, -1}, {"the least, with a Dot at 0", first, math.MinInt64, -1}, {"10 below 0", some, -10, -1},
	} {
		ownedBy(t, c.why, c.list, c.key, c.owner)
		var wanted []int64
		if c.key >= 0 {
			wanted = nodes(c.owner)
		}
		ownersAre(t, c.why, c.list, c.key, 1, wanted)
	}
}

func TestOwnerOfEachPlace(t *testing.T) {
	for _, list := range append(newRings(t)[:6], dots(0, 15, 1, 2, 65535, 3), dots(65535, 1), dots(0, 1), scattered(mostDots, 5, 16)) {
		for key := range int64(ringSize) {
			wanted := ownerOf(list, key)
			for _, round := range []int64{0, 1, 3, 1 << 40} {
				if node := impl.Owner(list, key+round*ringSize); node != wanted {
					t.Fatalf("Owner of %d in %v is %d, not %d", key+round*ringSize, list, node, wanted)
				}
			}
		}
	}
}

func TestOwnersAreWhatTheDocumentTells(t *testing.T) {
	row := dots(10, 1, 20, 1, 30, 2, 40, 2, 50, 1, 60, 3, 70, 1)
	for _, c := range []struct {
		why    string
		key, n int64
		wanted []int64
	}{
		{"one", 0, 1, nodes(1)}, {"two, past one with several Dots in a row", 0, 2, nodes(1, 2)}, {"three", 0, 3, nodes(1, 2, 3)}, {"just as many as there are, from behind", 31, 3, nodes(2, 1, 3)},
		{"one more than there are", 0, 4, nodes(1, 2, 3)}, {"as many as Dots", 0, 7, nodes(1, 2, 3)}, {"the greatest n", 0, math.MaxInt64, nodes(1, 2, 3)}, {"2^32", 0, 1 << 32, nodes(1, 2, 3)}, {"2^32 and 1", 35, 1<<32 + 1, nodes(2, 1, 3)},
		{"from the second of a row", 11, 2, nodes(1, 2)}, {"from the last of a row", 40, 3, nodes(2, 1, 3)}, {"behind the row", 41, 3, nodes(1, 3, 2)}, {"round the ring", 51, 3, nodes(3, 1, 2)}, {"round the ring, two", 51, 2, nodes(3, 1)},
		{"from the last Dot", 70, 3, nodes(1, 2, 3)}, {"behind the last Dot", 71, 3, nodes(1, 2, 3)}, {"from the last place", 65535, 2, nodes(1, 2)}, {"many times round", 1<<62 + 51, 3, nodes(3, 1, 2)}, {"the greatest key", math.MaxInt64, 9, nodes(1, 2, 3)},
		{"n is 0", 0, 0, nil}, {"n is -1", 0, -1, nil}, {"n is the least", 0, math.MinInt64, nil}, {"n is -2^32 and 1", 0, 1 - 1<<32, nil}, {"the key is -1", -1, 1, nil}, {"the key is the least", math.MinInt64, 3, nil}, {"both are below 0", -1, -1, nil}, {"the key is -1 and n the greatest", -1, math.MaxInt64, nil},
	} {
		ownersAre(t, c.why, row, c.key, c.n, c.wanted)
	}
}

// Of all rings, keys and counts: unlike Nodes, which begin with the Owner, as many as are asked for or as there are.
func TestOwnersOfRings(t *testing.T) {
	for _, list := range someRings(t) {
		kinds := int64(len(unlikeNodes(list)))
		counts := []int64{1, 2, 3, kinds - 1, kinds, kinds + 1, mostNodes, mostNodes + 1, mostDots, math.MaxInt32, math.MaxInt64}
		for _, key := range keysOf(list) {
			all := ownersOf(list, key)
			ownedBy(t, "a ring", list, key, ownerOf(list, key))
			for _, n := range counts {
				var wanted []int64
				if n > 0 {
					wanted = all[:min(n, kinds)]
				}
				ownersAre(t, "a ring", list, key, n, wanted)
				if n > 0 && wanted[0] != impl.Owner(list, key) {
					t.Fatalf("Owners of %d in %v begin with %d, not with the Owner", key, list, wanted[0])
				}
			}
			for _, n := range []int64{0, -1, -kinds, math.MinInt64, math.MinInt64 + 1} {
				ownersAre(t, "n is below 1", list, key, n, nil)
			}
		}
		for _, key := range wrongKeys {
			ownedBy(t, "a key is below 0", list, key, -1)
			for _, n := range append(counts, 0, -1) {
				ownersAre(t, "a key is below 0", list, key, n, nil)
			}
		}
	}
}

// Of every list of a few Dots: each place near them.
func TestOwnersOfEveryShortRing(t *testing.T) {
	texts("\x00\x01\x02\x03", 6, func(which string) {
		var list []impl.Dot
		for i, node := range []byte(which) {
			if node > 0 {
				list = append(list, impl.Dot{At: int64(i), Node: int64(node)})
			}
		}
		if len(list) == 0 {
			return
		}
		for key := range int64(7) {
			all := ownersOf(list, key)
			ownedBy(t, "a short ring", list, key, ownerOf(list, key))
			for n := int64(1); n <= 4; n++ {
				ownersAre(t, "a short ring", list, key, n, all[:min(n, int64(len(all)))])
			}
		}
		for node := range int64(5) {
			leaves(t, "a short ring", list, node, leftOf(list, node))
		}
	})
}

func TestWithoutIsWhatTheDocumentTells(t *testing.T) {
	some := dots(10, 1, 20, 2, 30, 1, 40, 3)
	for _, c := range []struct {
		why    string
		list   []impl.Dot
		node   int64
		wanted []impl.Dot
	}{
		{"one with several Dots", some, 1, dots(20, 2, 40, 3)}, {"one between", some, 2, dots(10, 1, 30, 1, 40, 3)}, {"the last one", some, 3, dots(10, 1, 20, 2, 30, 1)},
		{"one that has no Dot", some, 0, some}, {"another one that has no Dot", some, 15, some}, {"one that is not there", some, 16, some}, {"far away", some, math.MaxInt64, some}, {"2^32 and 1", some, 1<<32 + 1, some}, {"257", some, 257, some},
		{"-1", some, -1, some}, {"-2", some, -2, some}, {"the least", some, math.MinInt64, some}, {"-1, and 0 is there", dots(10, 0, 20, 1), -1, dots(10, 0, 20, 1)},
		{"the only one", dots(10, 1), 1, nil}, {"the only one, with Dots in a row", dots(10, 1, 20, 1, 30, 1), 1, nil}, {"not the only one", dots(10, 1, 20, 1, 30, 1), 2, dots(10, 1, 20, 1, 30, 1)}, {"0, the only one", dots(0, 0), 0, nil}, {"the most Dots, all of it", spread(mostDots, 0, 1, 7), 7, nil}, {"the most Dots, none of it", spread(mostDots, 0, 1, 7), 8, spread(mostDots, 0, 1, 7)},
	} {
		leaves(t, c.why, c.list, c.node, c.wanted)
	}
}

func TestWithoutOfRings(t *testing.T) {
	for _, list := range someRings(t) {
		for node := int64(-1); node <= mostNodes; node++ {
			leaves(t, "a ring", list, node, leftOf(list, node))
			left := impl.Without(list, node)
			if impl.RingOk(left) != (len(left) > 0) {
				t.Fatalf("%v without %d is no ring: %v", list, node, left)
			}
			leaves(t, "twice", left, node, left)
		}
		for _, node := range wrongNodes {
			leaves(t, "a node that there is not", list, node, list)
		}
		// One after the other, until none is left.
		left := list
		for _, node := range shuffled(unlikeNodes(list), uint32(len(list))) {
			if len(left) == 0 {
				t.Fatalf("%v: none is left ahead of %d", list, node)
			}
			left = impl.Without(left, node)
		}
		if len(left) != 0 {
			t.Fatalf("%v without each of its nodes is %v", list, left)
		}
	}
}

// Promise 11: each key that was not that node's is owned as before, each that was by the next one of its Owners.
func TestWithoutOneNodeOnlyItsOwnKeysMove(t *testing.T) {
	for _, list := range someRings(t) {
		var without [][]impl.Dot
		for _, node := range allNodes() {
			without = append(without, impl.Without(list, node))
		}
		for _, key := range keysOf(list) {
			before, owners := impl.Owner(list, key), impl.Owners(list, key, mostNodes)
			for node, left := range without {
				wanted := before
				if before == int64(node) {
					// Where it was the only one, nobody owns anything any more.
					wanted = append(owners[1:], -1)[0]
				}
				ownedBy(t, "without one node", left, key, wanted)
				rest := slices.DeleteFunc(slices.Clone(owners), func(n int64) bool { return n == int64(node) })
				ownersAre(t, "all the others stay in order", left, key, mostNodes, rest)
			}
		}
	}
}

// Promise 11: with one node more, the last one of nodes, each key is owned as before or by that one.
func TestWithOneNodeMoreKeysMoveOnlyToIt(t *testing.T) {
	all := allNodes()
	for seed := range uint32(30) {
		order := shuffled(all, seed)
		for count := int64(1); count <= mostOfNode; count += 1 + int64(seed)%3 {
			moved := 0
			for size := 1; size < mostNodes; size++ {
				fresh := order[size]
				before, after := ringOf(t, count, order[:size]...), ringOf(t, count, order[:size+1]...)
				for _, d := range before {
					if !slices.Contains(after, d) {
						t.Fatalf("with %d more, %v is gone", fresh, d)
					}
				}
				for _, key := range keysOf(after) {
					was, is := impl.Owner(before, key), impl.Owner(after, key)
					if is != was && is != fresh {
						t.Fatalf("with %d more, %d goes from %d to %d; the ring was %v", fresh, key, was, is, before)
					}
					if is != was {
						moved++
					}
				}
				leaves(t, "without the one that came", after, fresh, before)
			}
			if moved == 0 {
				t.Fatalf("no key ever moves to one node more, of %v", order)
			}
		}
	}
}

func TestRingsLeaveTheirArguments(t *testing.T) {
	lists := someRings(t)
	for _, w := range wrongRings() {
		lists = append(lists, w.list[:min(len(w.list), 300)])
	}
	for _, given := range lists {
		for _, filler := range []impl.Dot{{At: 65535, Node: 9}, {}, {At: -1, Node: -1}} {
			list, picture := roomy(given, filler)
			impl.RingOk(list)
			for _, key := range []int64{0, 5, 23327, 65535, 65536, math.MaxInt64, -1} {
				impl.Owner(list, key)
				for _, n := range []int64{-1, 0, 1, 2, 16, math.MaxInt64} {
					impl.Owners(list, key, n)
				}
			}
			for node := int64(-1); node <= mostNodes; node++ {
				impl.Without(list, node)
			}
			stays(t, "the ring", list, picture)
		}
	}
	for _, given := range [][]int64{nil, {3}, {5, 1, 12}, reversed(allNodes()), {1, 1}, {16}, {-1, 4}} {
		list, picture := roomy(given, 7)
		for _, count := range []int64{-1, 0, 1, 3, 8, 9} {
			impl.NewRing(list, count)
		}
		stays(t, "NewRing's nodes", list, picture)
	}
}

// An argument may be a piece of a greater one, the rest of which lies in the room behind it.
func TestRingsDoNotLookIntoTheRoomBehind(t *testing.T) {
	whole := spread(mostDots+20, 100, 7, 0, 1, 2, 3, 4)
	picture := slices.Clone(whole)
	for size := 1; size <= mostDots; size++ {
		list := whole[:size]
		if !impl.RingOk(list) {
			t.Fatalf("RingOk of %d Dots, with others behind, is false", size)
		}
		behind := whole[size].At
		ownedBy(t, "a Dot lies behind", list, behind, 0)
		ownersAre(t, "Dots lie behind", list, behind, 9, ownersOf(slices.Clone(list), behind))
		leaves(t, "Dots lie behind", list, 2, leftOf(slices.Clone(list), 2))
	}
	if impl.RingOk(whole[:0]) || impl.Owner(whole[:0], 5) != -1 || len(impl.Without(whole[:0], 1)) != 0 {
		t.Error("no Dots, with others behind, are a ring")
	}
	if !slices.Equal(whole, picture) {
		t.Error("what lies behind is changed")
	}
	some := nodes(4, 2, 2, 16)
	grants(t, "nodes lie behind", some[:2], 1, dots(39379, 2, 55433, 4))
	grantsNot(t, "nodes lie behind", some[:0], 1)
}

func TestNewRingIsNewMemory(t *testing.T) {
	for _, count := range []int64{1, 3, 8} {
		for _, some := range [][]int64{{0}, {5, 1, 12}, reversed(allNodes())} {
			one, other := ringOf(t, count, some...), ringOf(t, count, some...)
			scribble(one, impl.Dot{At: 42, Node: 42})
			if wanted := newRingOf(some, count); !slices.Equal(other, wanted) {
				t.Fatalf("two times NewRing(%v, %d) share memory", some, count)
			}
			grants(t, "once more", some, count, newRingOf(some, count))
		}
	}
}

func TestOwnersAreNewMemory(t *testing.T) {
	for _, list := range someRings(t) {
		picture := slices.Clone(list)
		for _, key := range []int64{0, 23327, 65535, math.MaxInt64} {
			for _, n := range []int64{1, 2, 5, 16, math.MaxInt64} {
				one, other := impl.Owners(list, key, n), impl.Owners(list, key, n)
				wanted := slices.Clone(one)
				scribble(one, 42)
				if !slices.Equal(list, picture) || !slices.Equal(other, wanted) {
					t.Fatalf("%d Owners of %d in %v share memory with another answer, or the ring", n, key, list)
				}
				ownersAre(t, "once more", list, key, n, wanted)
			}
		}
	}
}

// Also where the ring stays as it is, or is cut to its length.
func TestWithoutIsNewMemory(t *testing.T) {
	for _, given := range someRings(t) {
		for _, list := range [][]impl.Dot{slices.Clone(given), slices.Clip(given), append(slices.Clone(given), dots(9, 9, 8, 8)...)[:len(given)]} {
			picture := slices.Clone(list[:cap(list)])
			for node := int64(-1); node <= mostNodes; node++ {
				one, other := impl.Without(list, node), impl.Without(list, node)
				wanted := slices.Clone(one)
				scribble(one, impl.Dot{At: 42, Node: 42})
				if !slices.Equal(list[:cap(list)], picture) || !slices.Equal(other, wanted) {
					t.Fatalf("%v without %d shares memory with another answer, or the ring", list, node)
				}
				leaves(t, "once more", list, node, wanted)
			}
		}
	}
}

func TestRingsKeepNothingFromCallToCall(t *testing.T) {
	list := dots(10, 1, 20, 2, 30, 1)
	for range 3 {
		grants(t, "some", nodes(0, 1), 1, dots(23326, 0, 64121, 1))
		grants(t, "others", nodes(1, 2), 1, dots(39379, 2, 64121, 1))
		grantsNot(t, "alike ones", nodes(1, 1), 1)
		ownedBy(t, "some", list, 11, 2)
		ownedBy(t, "others", dots(10, 7), 11, 7)
		ownersAre(t, "some", list, 11, 9, nodes(2, 1))
		ownersAre(t, "the same, one", list, 11, 1, nodes(2))
		leaves(t, "some", list, 1, dots(20, 2))
		leaves(t, "the same, another", list, 2, dots(10, 1, 30, 1))
		leaves(t, "no ring", dots(10, 1, 10, 2), 1, nil)
		ownedBy(t, "no ring", nil, 11, -1)
	}
}
