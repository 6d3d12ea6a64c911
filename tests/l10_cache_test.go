package tests

import (
	"math"
	ones "math/bits"
	"slices"
	"testing"

	"loop.example/g00260/impl"
)

// mostCalls is how many calls there may be, mostRoom the greatest room.
const mostCalls = 60
const mostRoom = 20

// wrongRooms are those that nobody has.
var wrongRooms = []int64{0, -1, -2, -mostRoom, mostRoom + 1, mostRoom + 2, mostCalls, 100, math.MaxInt32, math.MinInt32, 1 << 32, 1<<32 + 1, 1<<32 + mostRoom, math.MaxInt64 - 1, math.MaxInt64, math.MinInt64, math.MinInt64 + 1}

// caches are the three that take a room.
var caches = []struct {
	name string
	call func([]int64, int64) int64
}{{"Lru", impl.Lru}, {"Fifo", impl.Fifo}, {"Best", impl.Best}}

// called are numbers as a list, ordinal are 1, 2, 3 and so on.
func called(list ...int64) []int64 { return list }

func ordinal(size int) []int64 {
	list := make([]int64, size)
	for i := range list {
		list[i] = int64(i) + 1
	}
	return list
}

// lruOf tells Lru without anything at hand: a call hits where since the last one of its number less unlike others than the room were called.
func lruOf(calls []int64, room int64) int64 {
	missed := int64(0)
	for at, number := range calls {
		since := map[int64]bool{}
		back := at - 1
		for back >= 0 && calls[back] != number {
			since[calls[back]] = true
			back--
		}
		if back < 0 || int64(len(since)) >= room {
			missed++
		}
	}
	return missed
}

// fifoOf tells Fifo by the calls that missed: the last ones, as many as there is room, are at hand.
func fifoOf(calls []int64, room int64) int64 {
	var missed []int64
	for _, number := range calls {
		if from := max(0, int64(len(missed))-room); !slices.Contains(missed[from:], number) {
			missed = append(missed, number)
		}
	}
	return int64(len(missed))
}

// bestOf tells Best as the document's words have it: of those at hand each that comes is struck, and the first one left goes, or the one that was struck last.
func bestOf(calls []int64, room int64) int64 {
	var near []int64
	missed := int64(0)
	for at, number := range calls {
		if slices.Contains(near, number) {
			continue
		}
		missed++
		near = append(near, number)
		if int64(len(near)) <= room {
			continue
		}
		left := slices.Clone(near)
		for _, comes := range calls[at+1:] {
			if i := slices.Index(left, comes); i >= 0 && len(left) > 1 {
				left = slices.Delete(left, i, i+1)
			}
		}
		i := slices.Index(near, left[0])
		near = slices.Delete(near, i, i+1)
	}
	return missed
}

// leastOf is how many miss at least, all ways tried to choose which one goes: for each set that may be at hand how many missed at least till then.
func leastOf(calls []int64, room int64) int64 {
	kinds := slices.Compact(slices.Sorted(slices.Values(calls)))
	ways := map[uint64]int64{0: 0}
	for _, number := range calls {
		i, _ := slices.BinarySearch(kinds, number)
		bit := uint64(1) << i
		next := map[uint64]int64{}
		reach := func(near uint64, missed int64) {
			if before, known := next[near]; !known || missed < before {
				next[near] = missed
			}
		}
		for near, missed := range ways {
			with := near | bit
			switch {
			case near == with:
				reach(near, missed)
			case int64(ones.OnesCount64(with)) <= room:
				reach(with, missed+1)
			default:
				for rest := with; rest != 0; rest &= rest - 1 {
					reach(with&^(rest&-rest), missed+1)
				}
			}
		}
		ways = next
	}
	least := int64(math.MaxInt64)
	for _, missed := range ways {
		least = min(least, missed)
	}
	return least
}

// everyWay calls see with how many miss in each way to choose which one goes, one by one.
func everyWay(calls, near []int64, room, missed int64, see func(int64)) {
	if len(calls) == 0 {
		see(missed)
		return
	}
	if slices.Contains(near, calls[0]) {
		everyWay(calls[1:], near, room, missed, see)
		return
	}
	with := append(slices.Clone(near), calls[0])
	if int64(len(with)) <= room {
		everyWay(calls[1:], with, room, missed+1, see)
		return
	}
	for i := range with {
		everyWay(calls[1:], slices.Delete(slices.Clone(with), i, i+1), room, missed+1, see)
	}
}

// unlikeOf tells Distinct.
func unlikeOf(calls []int64) int64 {
	return int64(len(slices.Compact(slices.Sorted(slices.Values(calls)))))
}

// cachesAre fails where one of the three is not as many as told.
func cachesAre(t *testing.T, why string, calls []int64, room, lru, fifo, best int64) {
	t.Helper()
	for i, wanted := range []int64{lru, fifo, best} {
		if missed := caches[i].call(calls, room); missed != wanted {
			t.Fatalf("%s: %s of %d calls, %v, and a room of %d is %d, not %d", why, caches[i].name, len(calls), calls, room, missed, wanted)
		}
	}
}

// cachesRight is cachesAre where the document's words are followed.
func cachesRight(t *testing.T, why string, calls []int64, room int64) {
	t.Helper()
	cachesAre(t, why, calls, room, lruOf(calls, room), fifoOf(calls, room), bestOf(calls, room))
}

// distinctIs fails where Distinct is not as many.
func distinctIs(t *testing.T, why string, calls []int64, wanted int64) {
	t.Helper()
	if unlike := impl.Distinct(calls); unlike != wanted {
		t.Fatalf("%s: Distinct of %d calls, %v, is %d, not %d", why, len(calls), calls, unlike, wanted)
	}
}

// callLists are calls of all shapes, from none to mostCalls.
func callLists() [][]int64 {
	list := [][]int64{
		nil, {}, {1}, {0}, {-1}, {math.MinInt64}, {math.MaxInt64}, {1, 1}, {1, 2}, {1, 2, 1}, {1, 2, 3, 4, 1, 2, 5, 1, 2, 3, 4, 5}, {3, 2, 1, 0, 3, 2, 4, 3, 2, 1, 0, 4},
		ordinal(mostCalls), slices.Repeat([]int64{7}, mostCalls), slices.Repeat([]int64{1, 2}, mostCalls/2), append(ordinal(30), reversed(ordinal(30))...), append(ordinal(30), ordinal(30)...),
	}
	for size := 1; size <= mostRoom+2; size++ {
		list = append(list, slices.Repeat(ordinal(size), mostCalls/size), append(ordinal(size), reversed(ordinal(size))...), slices.Repeat(append(ordinal(size), 1, 1, 2), mostCalls/(size+3)))
	}
	for seed := range uint32(120) {
		list = append(list, countsOf(1+int(seed*7)%mostCalls, seed, 1+int64(seed)%30), countsOf(mostCalls, seed, 2+int64(seed)%24))
	}
	// Some are called far more often than others.
	for seed := range uint32(40) {
		often := countsOf(mostCalls, seed, 9)
		for i, n := range countsOf(mostCalls, seed+1, 9) {
			often[i] = often[i]*n/3 - 4
		}
		list = append(list, often)
	}
	return list
}

// shortCalls calls see with each list of at most length calls of 1 to kinds.
func shortCalls(length int, kinds int64, see func([]int64)) {
	for size := range length + 1 {
		lengthLists(size, kinds, see)
	}
}

func TestCachesAreWhatTheDocumentTells(t *testing.T) {
	some := called(1, 2, 3, 4, 1, 2, 5, 1, 2, 3, 4, 5)
	for _, c := range []struct {
		why                         string
		calls                       []int64
		room, lru, fifo, best, kind int64
	}{
		{"some, a room of 1", some, 1, 12, 12, 10, 5},
		{"some, a room of 2", some, 2, 12, 12, 8, 5},
		{"some, a room of 3", some, 3, 10, 9, 7, 5},
		{"some, a room of 4, and Fifo misses more", some, 4, 8, 10, 6, 5},
		{"some, a room for all", some, 5, 5, 5, 5, 5},
		{"some, the greatest room", some, mostRoom, 5, 5, 5, 5},
		{"no calls", nil, 1, 0, 0, 0, 0},
		{"no calls, the greatest room", called(), mostRoom, 0, 0, 0, 0},
		{"one call", called(5), 1, 1, 1, 1, 1},
		{"one call, the greatest room", called(5), mostRoom, 1, 1, 1, 1},
		{"two alike", called(5, 5), 1, 1, 1, 1, 1},
		{"two unlike", called(5, 6), 1, 2, 2, 2, 2},
		{"two unlike, a room for both", called(5, 6), 2, 2, 2, 2, 2},
		{"what has just come may go", called(1, 2, 1), 1, 3, 3, 2, 2},
		{"what has just come goes again and again", called(1, 2, 1, 3, 1, 4, 1), 1, 7, 7, 4, 4},
		{"what has just come is called again the first", called(1, 2, 2, 1), 1, 3, 3, 3, 2},
		{"by turns, a room of 1", called(1, 2, 1, 2, 1, 2), 1, 6, 6, 4, 2},
		{"of three at hand what has just come is called again the latest", called(1, 2, 3, 1, 2, 3), 2, 6, 6, 4, 3},
		{"called again just behind the call by which it goes", called(1, 2, 3, 1), 2, 4, 4, 3, 3},
		{"called again just behind the call by which it would have gone, and goes by Fifo alone", called(1, 2, 1, 3, 1), 2, 3, 4, 3, 3},
		{"called again just ahead of the call by which it would have gone", called(1, 2, 3, 1, 4, 1), 3, 4, 5, 4, 4},
		{"called again just behind, the other one goes", called(1, 2, 1, 3, 2), 2, 4, 3, 3, 3},
		{"a call that hits does not make it come", called(1, 2, 1, 1, 3, 1, 2), 2, 4, 5, 3, 3},
		{"called again, and still the one that came first", called(1, 2, 3, 1, 4, 2, 1), 3, 5, 5, 4, 4},
		{"two that are not called again", called(1, 2, 3, 3, 4, 3), 2, 4, 4, 4, 4},
		{"two that are not called again, beside one that is", called(1, 2, 3, 4, 3, 4), 2, 4, 4, 4, 4},
		{"not called again, beside one that is at the very last call", called(1, 2, 3, 3, 1), 2, 4, 4, 3, 3},
		{"not called again, ahead of one that is at the very last call", called(2, 1, 3, 3, 1), 2, 3, 3, 3, 3},
		{"what has just come is not called again, the other one at the very last call", called(1, 2, 3, 4, 1), 1, 5, 5, 4, 4},
		{"only the very last call is one again", called(1, 2, 3, 4, 5, 6, 1), 3, 7, 7, 6, 6},
		{"all called again, one of them at the very last call", called(1, 2, 3, 2, 3, 1), 2, 4, 4, 4, 3},
		{"there and back", called(1, 2, 3, 4, 3, 2, 1), 2, 6, 6, 5, 4},
		{"numbers below 0, 0, the least and the greatest", called(0, math.MinInt64, -1, math.MaxInt64, 0, math.MinInt64, -1, math.MaxInt64), 3, 8, 8, 5, 4},
		{"the least and the greatest by turns", called(math.MinInt64, math.MaxInt64, math.MinInt64, math.MaxInt64), 1, 4, 4, 3, 2},
		{"a number and the same below 0", called(1, -1, 1, -1), 2, 2, 2, 2, 2},
		{"numbers that end alike", called(0, 1<<32, 1<<16, 0, 1<<32, 1<<16, 1<<8), 3, 4, 4, 4, 4},
	} {
		cachesAre(t, c.why, c.calls, c.room, c.lru, c.fifo, c.best)
		cachesRight(t, c.why, c.calls, c.room)
		distinctIs(t, c.why, c.calls, c.kind)
	}
}

func TestCachesOfEveryShortList(t *testing.T) {
	check := func(calls []int64) {
		for room := int64(1); room <= 4; room++ {
			cachesRight(t, "a short list", calls, room)
		}
		distinctIs(t, "a short list", calls, unlikeOf(calls))
	}
	shortCalls(9, 3, check)
	shortCalls(7, 4, check)
	shortCalls(6, 6, check)
}

func TestCachesOfEachRoom(t *testing.T) {
	for _, calls := range callLists() {
		for room := int64(1); room <= mostRoom; room++ {
			cachesRight(t, "a room", calls, room)
		}
		distinctIs(t, "some calls", calls, unlikeOf(calls))
	}
}

// Promise 10, BELADY: some few calls, each way gone by itself.
func TestNoWayMissesLessThanBest(t *testing.T) {
	check := func(calls []int64) {
		for room := int64(1); room <= 3; room++ {
			best, least := impl.Best(calls, room), int64(math.MaxInt64)
			everyWay(calls, nil, room, 0, func(missed int64) { least = min(least, missed) })
			if best != least {
				t.Fatalf("Best of %v and a room of %d is %d, and some way misses %d", calls, room, best, least)
			}
		}
	}
	shortCalls(7, 3, check)
	shortCalls(6, 5, check)
	for seed := range uint32(60) {
		check(countsOf(9, seed, 3+int64(seed)%5))
	}
}

// Promise 10, BELADY: more calls, all ways taken together by what is at hand.
func TestNoWayMissesLessThanBestOfManyCalls(t *testing.T) {
	for seed := range uint32(60) {
		kinds := 2 + int64(seed)%9
		calls := countsOf(mostCalls-int(seed)%3, seed, kinds)
		for room := int64(1); room <= kinds; room++ {
			if best, least := impl.Best(calls, room), leastOf(calls, room); best != least {
				t.Fatalf("Best of %v and a room of %d is %d, and some way misses %d", calls, room, best, least)
			}
		}
	}
	for _, room := range []int64{1, 2, 3, 8, 12, 13} {
		for _, calls := range [][]int64{slices.Repeat(ordinal(13), 4), append(ordinal(13), reversed(ordinal(13))...), countsOf(mostCalls, 5, 13)} {
			if best, least := impl.Best(calls, room), leastOf(calls, room); best != least {
				t.Fatalf("Best of %v and a room of %d is %d, and some way misses %d", calls, room, best, least)
			}
		}
	}
}

// Promise 10, MATTSON.
func TestWithMoreRoomLruMissesNoMore(t *testing.T) {
	check := func(calls []int64) {
		last := impl.Lru(calls, 1)
		for room := int64(2); room <= mostRoom; room++ {
			missed := impl.Lru(calls, room)
			if missed > last || missed < 0 {
				t.Fatalf("Lru of %v misses %d with a room of %d and %d with one less", calls, missed, room, last)
			}
			last = missed
		}
	}
	for _, calls := range callLists() {
		check(calls)
	}
	shortCalls(6, 4, check)
}

func TestBestIsBetweenDistinctAndTheOthers(t *testing.T) {
	check := func(calls []int64) {
		kinds := impl.Distinct(calls)
		for room := int64(1); room <= mostRoom; room++ {
			lru, fifo, best := impl.Lru(calls, room), impl.Fifo(calls, room), impl.Best(calls, room)
			if best > lru || best > fifo || best < kinds || lru > int64(len(calls)) || fifo > int64(len(calls)) {
				t.Fatalf("of %v and a room of %d: Best is %d, Lru %d, Fifo %d, Distinct %d", calls, room, best, lru, fifo, kinds)
			}
			if room >= kinds && (best != kinds || lru != kinds || fifo != kinds) {
				t.Fatalf("of %v and a room of %d, which is for all: Best is %d, Lru %d, Fifo %d, Distinct %d", calls, room, best, lru, fifo, kinds)
			}
		}
	}
	for _, calls := range callLists() {
		check(calls)
	}
	shortCalls(6, 4, check)
}

// As many unlike ones as there is room for, one less and one more, called round and round.
func TestCachesOfAsManyAsThereIsRoom(t *testing.T) {
	for room := 1; room <= mostRoom; room++ {
		for _, kinds := range []int{room - 1, room} {
			round := slices.Repeat(ordinal(kinds), mostCalls/max(kinds, 1))
			cachesAre(t, "all have room", round, int64(room), int64(kinds), int64(kinds), int64(kinds))
		}
		kinds := room + 1
		round := slices.Repeat(ordinal(kinds), mostCalls/kinds)
		all := int64(len(round))
		cachesAre(t, "one more than there is room for, round and round", round, int64(room), all, all, bestOf(round, int64(room)))
		once := ordinal(kinds)
		cachesAre(t, "one more than there is room for, once", once, int64(room), int64(kinds), int64(kinds), int64(kinds))
		first := append(ordinal(kinds), 1)
		cachesAre(t, "one more than there is room for, and the first again", first, int64(room), int64(kinds)+1, int64(kinds)+1, int64(kinds))
		second := append(ordinal(kinds), 2)
		again := int64(kinds)
		if room == 1 {
			// The second one has just come, and is called again.
			again = 2
		}
		cachesAre(t, "one more than there is room for, and the second again", second, int64(room), again, again, again)
	}
}

func TestCachesOfAlikeAndUnlikeCalls(t *testing.T) {
	for size := 1; size <= mostCalls; size++ {
		for _, room := range []int64{1, 2, 19, mostRoom} {
			for _, number := range []int64{0, 1, -1, -7, math.MinInt64, math.MaxInt64} {
				cachesAre(t, "all alike", slices.Repeat(called(number), size), room, 1, 1, 1)
			}
			n := int64(size)
			cachesAre(t, "all unlike", ordinal(size), room, n, n, n)
			cachesAre(t, "all unlike, falling", reversed(ordinal(size)), room, n, n, n)
		}
		distinctIs(t, "all alike", slices.Repeat(called(math.MinInt64), size), 1)
		distinctIs(t, "all unlike", ordinal(size), int64(size))
	}
}

// What is called is just a number: others in their places, 0 and the ends among them, miss as often.
func TestCachesOfAllKindsOfNumbers(t *testing.T) {
	for _, names := range [][]int64{
		{0, -1, 1, math.MinInt64, math.MaxInt64}, {math.MaxInt64, math.MaxInt64 - 1, math.MinInt64 + 1, math.MinInt64, 0}, {-5, -4, -3, -2, -1}, {1 << 32, 2 << 32, 5 << 32, 3 << 32, 1 << 62}, {mostCalls, mostRoom, 61, 21, -60},
	} {
		for seed := range uint32(30) {
			calls := countsOf(mostCalls, seed, 5)
			others := make([]int64, len(calls))
			for i, n := range calls {
				others[i] = names[n-1]
			}
			for room := int64(1); room <= 5; room++ {
				cachesAre(t, "other numbers", others, room, lruOf(calls, room), fifoOf(calls, room), bestOf(calls, room))
			}
			distinctIs(t, "other numbers", others, unlikeOf(calls))
		}
	}
}

func TestCachesOfMostCalls(t *testing.T) {
	for _, calls := range [][]int64{ordinal(mostCalls), slices.Repeat(called(0), mostCalls), slices.Repeat(ordinal(6), mostCalls/6), countsOf(mostCalls, 1, 9)} {
		for room := int64(1); room <= mostRoom; room++ {
			cachesRight(t, "60 calls", calls, room)
			cachesRight(t, "59 calls", calls[1:], room)
			for _, more := range []int{1, 2, 1000, 100000} {
				cachesAre(t, "more than 60 calls", slices.Concat(calls, slices.Repeat(calls[:1], more)), room, -1, -1, -1)
			}
		}
		distinctIs(t, "60 calls", calls, unlikeOf(calls))
		distinctIs(t, "59 calls", calls[1:], unlikeOf(calls[1:]))
		for _, more := range []int{1, 2, 1000, 1000000} {
			distinctIs(t, "more than 60 calls", slices.Concat(calls, slices.Repeat(calls[:1], more)), -1)
		}
	}
}

func TestCachesOfAWrongRoom(t *testing.T) {
	for _, room := range wrongRooms {
		for _, calls := range callLists()[:20] {
			cachesAre(t, "a wrong room", calls, room, -1, -1, -1)
		}
		for _, size := range []int{mostCalls + 1, mostCalls + 2, 5000} {
			cachesAre(t, "a wrong room, and more than 60 calls", ordinal(size), room, -1, -1, -1)
			cachesAre(t, "a wrong room, and more than 60 alike calls", make([]int64, size), room, -1, -1, -1)
		}
	}
}

func TestCachesLeaveTheirCalls(t *testing.T) {
	for _, given := range append(callLists(), ordinal(mostCalls+1), countsOf(1000, 1, 9)) {
		for _, filler := range []int64{7, 1, 0} {
			list, picture := roomy(given, filler)
			for _, room := range []int64{-1, 0, 1, 2, 3, mostRoom, mostRoom + 1} {
				for _, cache := range caches {
					cache.call(list, room)
					stays(t, cache.name, list, picture)
				}
			}
			impl.Distinct(list)
			stays(t, "Distinct", list, picture)
		}
	}
}

// An argument may be a piece of a greater one, the rest of which lies in the room behind it: nothing there is called again.
func TestCachesDoNotLookIntoTheRoomBehind(t *testing.T) {
	for _, whole := range [][]int64{called(1, 2, 3, 4, 1, 2, 5, 1, 2, 3, 4, 5), slices.Repeat(ordinal(7), 10), countsOf(100, 2, 5)} {
		for size := range min(len(whole), mostCalls) + 1 {
			for room := int64(1); room <= 6; room++ {
				cachesAre(t, "more lies behind", whole[:size], room, lruOf(whole[:size], room), fifoOf(whole[:size], room), bestOf(slices.Clone(whole[:size]), room))
			}
			distinctIs(t, "more lies behind", whole[:size], unlikeOf(whole[:size]))
		}
	}
}

func TestCachesKeepNothingFromCallToCall(t *testing.T) {
	some := called(1, 2, 3, 4, 1, 2, 5, 1, 2, 3, 4, 5)
	for range 3 {
		cachesAre(t, "some", some, 3, 10, 9, 7)
		cachesAre(t, "the same, more room", some, 4, 8, 10, 6)
		cachesAre(t, "others", called(1, 2, 1), 1, 3, 3, 2)
		cachesAre(t, "no calls", nil, 1, 0, 0, 0)
		cachesAre(t, "a wrong room", some, 0, -1, -1, -1)
		cachesAre(t, "too many", ordinal(mostCalls+1), 3, -1, -1, -1)
		distinctIs(t, "some", some, 5)
		distinctIs(t, "no calls", nil, 0)
		distinctIs(t, "too many", ordinal(mostCalls+1), -1)
	}
}
