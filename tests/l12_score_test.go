package tests

import (
	"math"
	"slices"
	"strconv"
	"testing"

	"loop.example/g00260/impl"
)

// mostRanked is how many nodes are ranked at most, greatestRanked the greatest node that is.
const mostRanked = 16
const greatestRanked = 1 << 62

// belowZero are numbers of which no Score is made, whether they are the node or the key.
var belowZero = []int64{-1, -2, -7, -9, -10, -100, math.MinInt32, -1 << 32, 1 - 1<<32, -greatestRanked, -greatestRanked - 1, math.MinInt64 + 1, math.MinInt64}

// aboveRanked are numbers that have Scores, but are not ranked.
var aboveRanked = []int64{greatestRanked + 1, greatestRanked + 2, greatestRanked + 1<<32, greatestRanked + greatestRanked/2, math.MaxInt64 - 1, math.MaxInt64}

// scoreNumbers are nodes and keys of one digit and of many, up to the greatest one.
var scoreNumbers = []int64{0, 1, 2, 7, 9, 10, 11, 12, 15, 16, 99, 100, 101, 127, 128, 255, 256, 999, 1000, 65535, 65536, 123456789, 999999999, 1000000000, 2147483646, 2147483647, 2147483648, 1<<32 - 1, 1 << 32, 1<<32 + 7, impl.MaxNumber, impl.MaxNumber + 1, 1<<53 + 1, 999999999999999999, 1000000000000000000, greatestRanked - 1, greatestRanked, greatestRanked + 1, math.MaxInt64 - 1, math.MaxInt64}

// tied are nodes whose Scores are alike, whatever the key.
var tied = [][]int64{
	{0, 2796188822, 5199895507, 12717177507},
	{15, 4655970963, 6091549563, 7169213818},
	{1105586467, 2215153141, 4658932516, greatestRanked},
}

// tiedOnce are nodes whose Scores are alike by this key, and not by others: of some the Digest comes to 1, of some to 0, which becomes 1.
var tiedOnce = []struct {
	key   int64
	nodes []int64
}{
	{0, nodes(2317168731, 3825046975, 3950739718, 7338320334)},
	{7, nodes(333613016, 753830917, 900790946, 2840617288)},
	{math.MaxInt64, nodes(353253446, 1101135692, 1255193032, 2035242087)},
}

// scoreOf tells Score as the document's words have it.
func scoreOf(node, key int64) int64 {
	if node < 0 || key < 0 {
		return -1
	}
	return bigDigest(strconv.FormatInt(node, 10) + "/" + strconv.FormatInt(key, 10))
}

// ranksOf tells Ranks of right nodes and a right key: the best of those that are left, again and again.
func ranksOf(some []int64, key int64) []int64 {
	left, scores := slices.Clone(some), map[int64]int64{}
	for _, node := range some {
		scores[node] = scoreOf(node, key)
	}
	var ranks []int64
	for len(left) > 0 {
		best := 0
		for i, node := range left {
			if s := scores[node]; s > scores[left[best]] || s == scores[left[best]] && node < left[best] {
				best = i
			}
		}
		ranks = append(ranks, left[best])
		left = slices.Delete(left, best, best+1)
	}
	return ranks
}

// scatteredNodes are so many unlike nodes here and there, from 0 to 2^62.
func scatteredNodes(count int, seed uint64) []int64 {
	var list []int64
	for len(list) < count {
		seed = seed*6364136223846793005 + 1442695040888963407
		node := int64(seed>>2) >> (seed >> 32 % 60)
		if !slices.Contains(list, node) {
			list = append(list, node)
		}
	}
	return list
}

// rankedLists are lists of nodes that are as the chapter tells, from one node to the most.
func rankedLists() [][]int64 {
	all := allNodes()
	lists := [][]int64{
		{0}, {1}, {7}, {9}, {10}, {15}, {16}, {1 << 32}, {greatestRanked}, {greatestRanked - 1},
		{0, 1}, {1, 0}, {3, 5, 8}, {8, 5, 3}, {0, greatestRanked}, {greatestRanked, 0}, {9, 10}, {99, 100, 101}, {1, 11, 111}, {1, 1<<32 + 1}, {0, 1 << 32}, {12, 21, 102, 201, 210, 120},
		all, reversed(all), shuffled(all, 4), all[1:], all[:15],
		{1, 10, 100, 1000, 10000, 100000, 1000000, 10000000, 100000000, 1000000000, 10000000000, 100000000000, 1000000000000, 10000000000000, 100000000000000, 1000000000000000},
		{greatestRanked, greatestRanked - 1, greatestRanked - 2, greatestRanked - 3, greatestRanked - 4, greatestRanked - 5, greatestRanked - 6, greatestRanked - 7, greatestRanked - 8, greatestRanked - 9, greatestRanked - 10, greatestRanked - 11, greatestRanked - 12, greatestRanked - 13, greatestRanked - 14, greatestRanked - 15},
		slices.Concat(tied...), reversed(slices.Concat(tied...)), append(slices.Concat(tied...), 1, 2, 3, 4),
	}
	for _, same := range tied {
		lists = append(lists, same, reversed(same), same[:2], same[2:], append(nodes(5, 8), same...))
	}
	for _, same := range tiedOnce {
		lists = append(lists, same.nodes, reversed(same.nodes), append(nodes(greatestRanked, 3), same.nodes...))
	}
	for seed := range uint64(24) {
		lists = append(lists, scatteredNodes(1+int(seed*7)%mostRanked, seed), scatteredNodes(mostRanked, seed+100))
	}
	return lists
}

// rankedKeys are keys from 0 on to the greatest one, those by which Scores are alike among them.
func rankedKeys() []int64 {
	keys := slices.Clone(scoreNumbers)
	for seed := range int64(12) {
		keys = append(keys, seed*3277+3, seed*987654321987+5)
	}
	return keys
}

// A wrongNodeList is a list of nodes of which none wins.
type wrongNodeList struct {
	why  string
	list []int64
}

// withNode is the list with another node at this place of it.
func withNode(list []int64, place int, node int64) []int64 {
	other := slices.Clone(list)
	other[place] = node
	return other
}

// wrongNodeLists are wrong by all there is to be wrong, and wherever it is.
func wrongNodeLists() []wrongNodeList {
	wrong := []wrongNodeList{
		{"no nodes, nil", nil}, {"no nodes", []int64{}}, {"one too many", ordinal(mostRanked + 1)}, {"one too many, from far", scatteredNodes(mostRanked+1, 5)}, {"two too many", scatteredNodes(mostRanked+2, 6)}, {"twice as many", ordinal(2 * mostRanked)}, {"256", ordinal(256)}, {"257", ordinal(257)}, {"very many", ordinal(100000)},
		{"two zeros", make([]int64, 2)}, {"16 zeros", make([]int64, mostRanked)}, {"17 zeros", make([]int64, mostRanked+1)}, {"very many zeros", make([]int64, 100000)}, {"the greatest twice", nodes(greatestRanked, greatestRanked)}, {"alike, and tied with another", nodes(0, 2796188822, 0)},
	}
	for _, list := range [][]int64{{5}, {3, 9}, {3, 9, 1}, allNodes(), reversed(allNodes()), scatteredNodes(mostRanked, 8), tied[2]} {
		for place := range list {
			for _, node := range slices.Concat(belowZero, aboveRanked) {
				wrong = append(wrong, wrongNodeList{"a node is out of range", withNode(list, place, node)})
			}
			for other := range list {
				if other != place {
					wrong = append(wrong, wrongNodeList{"two nodes are alike", withNode(list, place, list[other])})
				}
			}
		}
	}
	return append(wrong, wrongNodeList{"two are alike and out of range", nodes(-1, -1)}, wrongNodeList{"alike and above", nodes(greatestRanked+1, greatestRanked+1)})
}

// scoreIs fails where Score is not this one.
func scoreIs(t *testing.T, why string, node, key, wanted int64) {
	t.Helper()
	if s := impl.Score(node, key); s != wanted {
		t.Fatalf("%s: Score of %d and %d is %d, not %d", why, node, key, s, wanted)
	}
}

// ranksAre fails where Ranks are not these, or the Winner is not the first of them.
func ranksAre(t *testing.T, why string, some []int64, key int64, wanted ...int64) {
	t.Helper()
	if ranks := impl.Ranks(some, key); !slices.Equal(ranks, wanted) {
		t.Fatalf("%s: Ranks of %v by %d are %v, not %v", why, some[:min(len(some), 20)], key, ranks, wanted)
	}
	winner := int64(-1)
	if len(wanted) > 0 {
		winner = wanted[0]
	}
	if w := impl.Winner(some, key); w != winner {
		t.Fatalf("%s: Winner of %v by %d is %d, not %d", why, some[:min(len(some), 20)], key, w, winner)
	}
}

func TestScoreIsWhatTheDocumentTells(t *testing.T) {
	for _, c := range []struct {
		why              string
		node, key, score int64
	}{
		{"one digit each", 3, 7, 93050324}, {"the other way round", 7, 3, 1502499642}, {"two alike", 9, 9, 59740662},
		{"both are 0", 0, 0, 109705149}, {"a node of 0", 0, 1, 109705150}, {"a key of 0", 1, 0, 1535809303}, {"two digits of node", 10, 0, 1603190766}, {"two digits each", 12, 34, 203478973},
		{"the / is nearer to the front", 1, 234, 1333106152}, {"the / is nearer to the end", 123, 4, 1608928283}, {"two digits and two", 99, 99, 1065593348}, {"three and three", 100, 100, 1930130031}, {"nine digits each", 123456789, 987654321, 2097327628}, {"ten digits each", 1000000000, 1000000000, 1909905108},
		{"above 32 bits", 2147483648, 4294967296, 2002256287}, {"the greatest node that is ranked", greatestRanked, 0, 1640372464}, {"a key of 2^62", 0, greatestRanked, 1647267668}, {"both are 2^62", greatestRanked, greatestRanked, 1126301492}, {"a node above 2^62", greatestRanked + 1, 5, 918992976},
		{"the greatest node", math.MaxInt64, 0, 1759349617}, {"the greatest key", 0, math.MaxInt64, 1250014752}, {"the greatest of both", math.MaxInt64, math.MaxInt64, 2134463528}, {"one less", math.MaxInt64 - 1, math.MaxInt64 - 1, 120315859},
		{"the Digest was 0", 333613016, 7, 1}, {"the Digest is 1", 753830917, 7, 1}, {"the greatest Digest", 7579957238, 7, greatestDigest}, {"the Digest was 0, the greatest key", 1101135692, math.MaxInt64, 1}, {"the Digest is 1, a key of 0", 2317168731, 0, 1}, {"the greatest Digest, a key of 0", 491729989, 0, greatestDigest},
		{"a node of -1", -1, 7, -1}, {"a key of -1", 3, -1, -1}, {"both are -1", -1, -1, -1}, {"-1 and 0", -1, 0, -1}, {"0 and -1", 0, -1, -1}, {"the least node", math.MinInt64, 7, -1}, {"the least key", 3, math.MinInt64, -1}, {"the least of both", math.MinInt64, math.MinInt64, -1}, {"the least and the greatest", math.MinInt64, math.MaxInt64, -1}, {"the greatest and the least", math.MaxInt64, math.MinInt64, -1},
	} {
		scoreIs(t, c.why, c.node, c.key, c.score)
		if again := scoreOf(c.node, c.key); again != c.score {
			t.Fatalf("%s: the test itself makes %d", c.why, again)
		}
	}
}

func TestScoreOfNumbers(t *testing.T) {
	for _, node := range scoreNumbers {
		for _, key := range scoreNumbers {
			scoreIs(t, "numbers of all lengths", node, key, scoreOf(node, key))
			if s := impl.Score(node, key); s < 1 || s > greatestDigest {
				t.Fatalf("Score of %d and %d is %d, which is no Digest", node, key, s)
			}
		}
		for _, below := range belowZero {
			scoreIs(t, "the key is below 0", node, below, -1)
			scoreIs(t, "the node is below 0", below, node, -1)
		}
	}
	for _, node := range belowZero {
		for _, key := range belowZero {
			scoreIs(t, "both are below 0", node, key, -1)
		}
	}
	for node := int64(-3); node < 130; node++ {
		for key := int64(-3); key < 130; key++ {
			scoreIs(t, "small numbers", node, key, scoreOf(node, key))
		}
	}
}

func TestRanksAreWhatTheDocumentTells(t *testing.T) {
	for _, c := range []struct {
		why   string
		nodes []int64
		key   int64
		ranks []int64
	}{
		{"three", nodes(3, 5, 8), 7, nodes(5, 8, 3)}, {"three, falling", nodes(8, 5, 3), 7, nodes(5, 8, 3)}, {"one, of 0", nodes(0), 0, nodes(0)}, {"one, the greatest", nodes(greatestRanked), 0, nodes(greatestRanked)},
		{"both ends", nodes(0, greatestRanked), 0, nodes(greatestRanked, 0)}, {"both ends, the greatest key", nodes(0, greatestRanked), math.MaxInt64, nodes(0, greatestRanked)}, {"both ends, falling", nodes(greatestRanked, 0), 5, nodes(greatestRanked, 0)},
		{"16, a key of 0", allNodes(), 0, nodes(10, 13, 1, 4, 7, 11, 14, 2, 5, 8, 12, 15, 0, 3, 6, 9)}, {"16, falling", reversed(allNodes()), 7, nodes(10, 13, 1, 4, 7, 11, 14, 2, 5, 8, 12, 15, 0, 3, 6, 9)}, {"16, the greatest key", allNodes(), math.MaxInt64, nodes(14, 15, 0, 1, 2, 3, 4, 5, 6, 10, 7, 11, 8, 12, 9, 13)},
		{"more and more digits", nodes(1, 11, 111), 1, nodes(111, 1, 11)}, {"the / tells 12/3 from 1/23", nodes(12, 1), 3, nodes(1, 12)}, {"and by another key", nodes(1, 12), 23, nodes(12, 1)},
		{"two alike Scores", nodes(0, 2796188822), 3, nodes(0, 2796188822)}, {"two alike Scores, falling", nodes(2796188822, 0), 3, nodes(0, 2796188822)}, {"three alike Scores", nodes(5199895507, 0, 2796188822), 3, nodes(0, 2796188822, 5199895507)}, {"alike with the greatest", nodes(greatestRanked, 1105586467), 0, nodes(1105586467, greatestRanked)},
		{"a Digest that was 0, and one of 1", nodes(333613016, 753830917), 7, nodes(333613016, 753830917)}, {"the other way round", nodes(753830917, 333613016), 7, nodes(333613016, 753830917)}, {"by another key they are not alike", nodes(333613016, 753830917), 8, nodes(753830917, 333613016)}, {"alike ones behind another", nodes(2840617288, 753830917, 900790946, 333613016, 5), 7, nodes(5, 333613016, 753830917, 900790946, 2840617288)},
		{"the greatest Score of two, the least of two", nodes(753830917, 9643440972, 333613016, 7579957238), 7, nodes(7579957238, 9643440972, 333613016, 753830917)},
		{"a key of -1", nodes(3, 5, 8), -1, nil}, {"the least key", nodes(3, 5, 8), math.MinInt64, nil}, {"a key of -1, one node", nodes(0), -1, nil}, {"no nodes", nil, 7, nil}, {"no nodes and a key of -1", nil, -1, nil},
		{"two alike", nodes(3, 3), 7, nil}, {"two alike, apart", nodes(3, 5, 3), 7, nil}, {"a node of -1", nodes(3, -1), 7, nil}, {"just -1", nodes(-1), 7, nil}, {"above 2^62", nodes(greatestRanked+1, 3), 7, nil}, {"just above 2^62", nodes(greatestRanked + 1), 7, nil}, {"the greatest", nodes(3, math.MaxInt64), 7, nil}, {"the least", nodes(math.MinInt64, 3), 7, nil}, {"17", ordinal(mostRanked + 1), 7, nil},
	} {
		ranksAre(t, c.why, c.nodes, c.key, c.ranks...)
	}
}

// Promise 12: all nodes, each once, by Score, the greatest first, of alike ones the least first; and they begin with the Winner.
func TestRanksOfLists(t *testing.T) {
	for _, list := range rankedLists() {
		for _, key := range rankedKeys() {
			ranksAre(t, "a list", list, key, ranksOf(list, key)...)
			ranks := impl.Ranks(list, key)
			if !slices.Equal(slices.Sorted(slices.Values(ranks)), slices.Sorted(slices.Values(list))) {
				t.Fatalf("Ranks of %v by %d are %v, not all of them", list, key, ranks)
			}
			for i := 1; i < len(ranks); i++ {
				a, b := impl.Score(ranks[i-1], key), impl.Score(ranks[i], key)
				if a < b || a == b && ranks[i-1] >= ranks[i] {
					t.Fatalf("Ranks of %v by %d are %v: %d with %d is ahead of %d with %d", list, key, ranks, ranks[i-1], a, ranks[i], b)
				}
			}
			if winner := impl.Winner(list, key); winner != ranks[0] {
				t.Fatalf("Winner of %v by %d is %d, and Ranks begin with %d", list, key, winner, ranks[0])
			}
		}
		for _, key := range belowZero {
			ranksAre(t, "a key is below 0", list, key)
		}
	}
}

func TestRanksOfEachOrderOfNodes(t *testing.T) {
	for _, list := range [][]int64{{3, 5, 8}, {0, 9, 10, greatestRanked, 12}, append(nodes(7), tied[0]...), append(nodes(greatestRanked), tiedOnce[1].nodes...)} {
		for _, key := range []int64{0, 7, 23, math.MaxInt64} {
			wanted := ranksOf(list, key)
			orders(list, func(other []int64) { ranksAre(t, "in another order", other, key, wanted...) })
		}
	}
}

// Of each count of nodes there may be and a few more.
func TestHowManyNodesAreRanked(t *testing.T) {
	for count := range 2 * mostRanked {
		for _, list := range [][]int64{ordinal(count), scatteredNodes(count, uint64(count))} {
			for _, key := range []int64{0, 7, math.MaxInt64} {
				var wanted []int64
				if count <= mostRanked {
					wanted = ranksOf(list, key)
				}
				ranksAre(t, "so many", list, key, wanted...)
			}
		}
	}
}

func TestEachWrongListOfNodes(t *testing.T) {
	for _, w := range wrongNodeLists() {
		for _, key := range []int64{0, 1, 7, 65536, math.MaxInt64, -1, math.MinInt64} {
			ranksAre(t, w.why, w.list, key)
		}
	}
}

// Of every list of a few nodes, right ones and wrong ones, in any order.
func TestRanksOfEveryShortList(t *testing.T) {
	few := nodes(0, 1, 2796188822, greatestRanked, 1105586467, -1, greatestRanked+1)
	texts("\x00\x01\x02\x03\x04\x05\x06", 4, func(which string) {
		var list []int64
		right := which != ""
		for _, i := range []byte(which) {
			right = right && i < 5 && !slices.Contains(list, few[i])
			list = append(list, few[i])
		}
		for _, key := range []int64{0, 7, -1} {
			var wanted []int64
			if right && key >= 0 {
				wanted = ranksOf(list, key)
			}
			ranksAre(t, "a short list", list, key, wanted...)
		}
	})
}

// Nodes whose Scores are alike: the least one is ahead, wherever it stands in the list.
func TestOfAlikeScoresTheLeastNodeComesFirst(t *testing.T) {
	for _, same := range tied {
		for _, key := range rankedKeys() {
			for _, node := range same {
				scoreIs(t, "alike by each key", node, key, impl.Score(same[0], key))
			}
			orders(same, func(other []int64) { ranksAre(t, "alike by each key", other, key, same...) })
		}
	}
	for _, same := range tiedOnce {
		for _, node := range same.nodes {
			scoreIs(t, "alike by one key", node, same.key, 1)
		}
		orders(same.nodes, func(other []int64) {
			ranksAre(t, "alike by one key", other, same.key, same.nodes...)
			ranksAre(t, "and another one ahead", append(nodes(3), other...), same.key, append(nodes(3), same.nodes...)...)
		})
		another := ranksOf(same.nodes, 23)
		if slices.Equal(another, same.nodes) {
			t.Fatalf("by another key %v are in the same order", same.nodes)
		}
		ranksAre(t, "alike by one key, told by another", same.nodes, 23, another...)
	}
}

// Promise 12: without one node each key that was not won by it is won as before, each that was by the next one of its Ranks, and Ranks are what they were without it.
func TestWithoutOneNodeOnlyTheKeysThatItWonMove(t *testing.T) {
	for _, list := range rankedLists() {
		for _, key := range rankedKeys() {
			before, winner := impl.Ranks(list, key), impl.Winner(list, key)
			for place, node := range list {
				left := slices.Delete(slices.Clone(list), place, place+1)
				rest := slices.DeleteFunc(slices.Clone(before), func(n int64) bool { return n == node })
				ranksAre(t, "without one node", left, key, rest...)
				if w := impl.Winner(left, key); winner != node && w != winner {
					t.Fatalf("without %d, %d goes from %d to %d; the nodes were %v", node, key, winner, w, list)
				}
			}
		}
	}
}

// Promise 12: with one node more each key is won as before or by that one, wherever it comes into the list.
func TestWithOneNodeMoreKeysMoveOnlyToThatOne(t *testing.T) {
	moved, stayed := 0, 0
	for _, list := range rankedLists() {
		if len(list) == mostRanked {
			list = list[:mostRanked-1]
		}
		for i, key := range rankedKeys() {
			for _, fresh := range slices.Concat(nodes(0, 6, 10, 77, 1<<32, 2796188822, 753830917, greatestRanked), scatteredNodes(2, uint64(i))) {
				if slices.Contains(list, fresh) {
					continue
				}
				more := slices.Insert(slices.Clone(list), i%(len(list)+1), fresh)
				was, is := impl.Winner(list, key), impl.Winner(more, key)
				if is != was && is != fresh {
					t.Fatalf("with %d more, %d goes from %d to %d; the nodes were %v", fresh, key, was, is, list)
				}
				if is == was {
					stayed++
				} else {
					moved++
				}
				rest := slices.DeleteFunc(impl.Ranks(more, key), func(n int64) bool { return n == fresh })
				if !slices.Equal(rest, impl.Ranks(list, key)) {
					t.Fatalf("with %d more, the others of %v are %v by %d, not %v", fresh, list, rest, key, impl.Ranks(list, key))
				}
			}
		}
	}
	if moved == 0 || stayed == 0 {
		t.Fatalf("%d keys move to one node more, and %d stay", moved, stayed)
	}
}

// One node after the other goes until none is left: each time the Winner goes, the next one of the Ranks wins.
func TestRanksAreTheWinnersOneAfterTheOther(t *testing.T) {
	for _, list := range rankedLists() {
		for _, key := range []int64{0, 7, 23, 65536, math.MaxInt64} {
			left := slices.Clone(list)
			for _, node := range impl.Ranks(list, key) {
				if w := impl.Winner(left, key); w != node {
					t.Fatalf("of %v, of %v, %d wins %d, not %d", left, list, w, key, node)
				}
				left = slices.DeleteFunc(left, func(n int64) bool { return n == node })
			}
			if len(left) != 0 || impl.Winner(left, key) != -1 {
				t.Fatalf("of %v are left %v, won by %d", list, left, impl.Winner(left, key))
			}
		}
	}
}

func TestScoresLeaveTheirArguments(t *testing.T) {
	lists := rankedLists()
	for _, w := range wrongNodeLists() {
		lists = append(lists, w.list[:min(len(w.list), 300)])
	}
	for _, given := range lists {
		for _, filler := range []int64{0, -1, 10, greatestRanked + 1} {
			list, picture := roomy(given, filler)
			for _, key := range []int64{0, 7, 23, math.MaxInt64, -1, math.MinInt64} {
				impl.Winner(list, key)
				impl.Ranks(list, key)
			}
			stays(t, "the nodes", list, picture)
		}
	}
}

// An argument may be a piece of a greater one, the rest of which lies in the room behind it.
func TestScoresDoNotLookIntoTheRoomBehind(t *testing.T) {
	whole := slices.Concat(ordinal(mostRanked), nodes(1, -1, greatestRanked+1, 10, 10))
	picture := slices.Clone(whole)
	for size := range mostRanked + 1 {
		for _, key := range []int64{0, 7, math.MaxInt64} {
			ranksAre(t, "others lie behind", whole[:size], key, ranksOf(slices.Clone(whole[:size]), key)...)
		}
	}
	ranksAre(t, "others lie behind, one too many", whole[:mostRanked+1], 7)
	if !slices.Equal(whole, picture) {
		t.Error("what lies behind is changed")
	}
}

// Also where the nodes stand in the order of their Ranks, or are just one, or the list is cut to its length.
func TestRanksAreNewMemory(t *testing.T) {
	for _, some := range rankedLists() {
		for _, key := range []int64{0, 7, 65536, math.MaxInt64} {
			wanted := ranksOf(some, key)
			for _, list := range [][]int64{slices.Clip(slices.Clone(some)), slices.Clone(wanted), append(slices.Clone(some), 9, 9)[:len(some)]} {
				picture := slices.Clone(list[:cap(list)])
				one, other := impl.Ranks(list, key), impl.Ranks(list, key)
				scribble(one, 42)
				if !slices.Equal(list[:cap(list)], picture) || !slices.Equal(other, wanted) {
					t.Fatalf("Ranks of %v by %d share memory with another answer, or the nodes", some, key)
				}
				ranksAre(t, "once more", list, key, wanted...)
			}
		}
	}
}

func TestScoresKeepNothingFromCallToCall(t *testing.T) {
	for range 3 {
		scoreIs(t, "some", 3, 7, 93050324)
		scoreIs(t, "below 0", -1, 7, -1)
		ranksAre(t, "some", nodes(3, 5, 8), 7, 5, 8, 3)
		ranksAre(t, "the same, another key", nodes(3, 5, 8), math.MaxInt64, ranksOf(nodes(3, 5, 8), math.MaxInt64)...)
		ranksAre(t, "alike ones", nodes(3, 3), 7)
		ranksAre(t, "less", nodes(3, 8), 7, 8, 3)
		ranksAre(t, "none", nil, 7)
		ranksAre(t, "a key below 0", nodes(3, 5, 8), -1)
	}
}
