package tests

import (
	"math"
	"slices"
	"strings"
	"sync"
	"testing"

	"loop.example/tallyaudit/impl"
)

// badDepths are never a depth.
var badDepths = []int{math.MinInt, math.MinInt32, -256, -6, -5, -2, -1, 6, 7, 8, 12, 97, 99, 256, math.MaxInt32, math.MaxInt - 1, math.MaxInt}

// pointing is what the functions of points return for piles: the counts of all depths from 0 on, of places and of last ones.
type pointing struct {
	depths        [][]int
	places, lasts []int
}

// pointWinners is what the functions of points return for piles and lots.
type pointWinners struct {
	who, depth, place int
}

// nobodyWins is due for invalid arguments.
var nobodyWins = pointWinners{-1, -1, -1}

// samePoints reports whether all counts are the same.
func samePoints(a pointing, b pointing) bool {
	return sameTable(a.depths, b.depths) && slices.Equal(a.places, b.places) && slices.Equal(a.lasts, b.lasts)
}

// totalOf returns the number of all ballots.
func totalOf(list []impl.Pile) int {
	total := 0
	for _, p := range list {
		total += p.Many
	}
	return total
}

// summed returns, for each of n candidates, the sum of points for its letter on all ballots.
func summed(list []impl.Pile, n int, points func(text string, letter string) int) []int {
	counts := make([]int, n)
	for c := range counts {
		for _, p := range list {
			counts[c] += p.Many * points(p.Text, letters[c:c+1])
		}
	}
	return counts
}

// notAhead returns how many of n candidates a text does not name ahead of a letter, without this one itself, or 0 if it does not name this one.
func notAhead(text string, letter string, n int) int {
	ahead, _, named := strings.Cut(text, letter)
	if !named {
		return 0
	}
	many := 0
	for _, other := range letters[:n] {
		if string(other) != letter && !strings.ContainsRune(ahead, other) {
			many++
		}
	}
	return many
}

// pointed is what the document says of DepthCounts, PlaceCounts and LastCounts, in other words.
func pointed(list []impl.Pile, n int) (pointing, bool) {
	if !doFit(list, n) {
		return pointing{}, false
	}
	p := pointing{}
	for depth := range 6 {
		p.depths = append(p.depths, summed(list, n, func(text string, letter string) int {
			return strings.Count(text[:min(depth, len(text))], letter)
		}))
	}
	p.places = summed(list, n, func(text string, letter string) int { return notAhead(text, letter, n) })
	p.lasts = summed(list, n, func(text string, letter string) int {
		if len(text) == n && strings.HasSuffix(text, letter) {
			return 1
		}
		return 0
	})
	return p, true
}

// wonByPoints is what the document says of DepthWinner and PlaceWinner, in other words.
func wonByPoints(list []impl.Pile, lots []int) pointWinners {
	if !areLots(lots) {
		return nobodyWins
	}
	p, ok := pointed(list, len(lots))
	if !ok {
		return nobodyWins
	}
	// The first one of several greatest ones is found.
	greatest := func(counts []int) int {
		return slices.MaxFunc(lots, func(x int, y int) int { return counts[x] - counts[y] })
	}
	depth := len(lots)
	for slices.Max(p.depths[depth-1]) > totalOf(list)-slices.Max(p.depths[depth-1]) {
		depth--
	}
	return pointWinners{greatest(p.depths[depth]), depth, greatest(p.places)}
}

// checkPointing checks all functions of points that return counts.
func checkPointing(t *testing.T, list []impl.Pile, n int, want pointing) {
	t.Helper()
	for depth := range 6 {
		if counts, ok := impl.DepthCounts(list, n, depth); !ok || !slices.Equal(counts, want.depths[depth]) {
			t.Fatalf("DepthCounts(%v, %d, %d) returned %v, %v, not %v", list, n, depth, counts, ok, want.depths[depth])
		}
	}
	if counts, ok := impl.PlaceCounts(list, n); !ok || !slices.Equal(counts, want.places) {
		t.Fatalf("PlaceCounts(%v, %d) returned %v, %v, not %v", list, n, counts, ok, want.places)
	}
	if counts, ok := impl.LastCounts(list, n); !ok || !slices.Equal(counts, want.lasts) {
		t.Fatalf("LastCounts(%v, %d) returned %v, %v, not %v", list, n, counts, ok, want.lasts)
	}
}

// mustPoint returns all counts, which must be those that are due, and exist.
func mustPoint(t *testing.T, list []impl.Pile, n int) pointing {
	t.Helper()
	want, ok := pointed(list, n)
	if !ok {
		t.Fatalf("%v do not fit %d candidates", list, n)
	}
	checkPointing(t, list, n, want)
	return want
}

// pointsOf returns all counts of piles that fit, without a look at what is due.
func pointsOf(t *testing.T, list []impl.Pile, n int) pointing {
	t.Helper()
	got := pointing{}
	for depth := range 6 {
		counts, ok := impl.DepthCounts(list, n, depth)
		if !ok || len(counts) != n {
			t.Fatalf("DepthCounts(%v, %d, %d) returned %v, %v", list, n, depth, counts, ok)
		}
		got.depths = append(got.depths, counts)
	}
	places, ok := impl.PlaceCounts(list, n)
	lasts, fine := impl.LastCounts(list, n)
	if !ok || !fine || len(places) != n || len(lasts) != n {
		t.Fatalf("the counts of %v for %d candidates are %v, %v and %v, %v", list, n, places, ok, lasts, fine)
	}
	got.places, got.lasts = places, lasts
	return got
}

// winnersOf returns what the functions of points return for piles that fit and lots, without a look at what is due.
func winnersOf(t *testing.T, list []impl.Pile, lots []int) pointWinners {
	t.Helper()
	who, depth := impl.DepthWinner(list, lots)
	got := pointWinners{who, depth, impl.PlaceWinner(list, lots)}
	if who < 0 || who >= len(lots) || depth < 1 || depth > len(lots) || got.place < 0 || got.place >= len(lots) {
		t.Fatalf("the winners of %v with lots %v are %v", list, lots, got)
	}
	return got
}

// mustWinByPoints returns the winners, who must be those that are due, and exist.
func mustWinByPoints(t *testing.T, list []impl.Pile, lots []int) pointWinners {
	t.Helper()
	got, want := winnersOf(t, list, lots), wonByPoints(list, lots)
	if got != want {
		t.Fatalf("the winners of %v with lots %v are %v, not %v", list, lots, got, want)
	}
	return got
}

// checkNoPoints tells if a function of points returns counts.
func checkNoPoints(t *testing.T, list []impl.Pile, n int) {
	t.Helper()
	for depth := -1; depth <= 6; depth++ {
		checkNoDepth(t, list, n, depth)
	}
	if counts, ok := impl.PlaceCounts(list, n); ok || len(counts) != 0 {
		t.Fatalf("PlaceCounts(%.200v, %d) returned %v, %v", list, n, counts, ok)
	}
	if counts, ok := impl.LastCounts(list, n); ok || len(counts) != 0 {
		t.Fatalf("LastCounts(%.200v, %d) returned %v, %v", list, n, counts, ok)
	}
}

// checkNoDepth tells if there are counts of a depth.
func checkNoDepth(t *testing.T, list []impl.Pile, n int, depth int) {
	t.Helper()
	if counts, ok := impl.DepthCounts(list, n, depth); ok || len(counts) != 0 {
		t.Fatalf("DepthCounts(%.200v, %d, %d) returned %v, %v", list, n, depth, counts, ok)
	}
}

// checkNoPointWinner tells if there is a winner, or a depth.
func checkNoPointWinner(t *testing.T, list []impl.Pile, lots []int) {
	t.Helper()
	who, depth := impl.DepthWinner(list, lots)
	if got := (pointWinners{who, depth, impl.PlaceWinner(list, lots)}); got != nobodyWins {
		t.Fatalf("the winners of %.200v with lots %.100v are %v", list, lots, got)
	}
}

// pilesOfDepths returns piles whose winners by depth have all depths: ballots begin with each candidate, go on in a circle, and end early, and some name nobody.
func pilesOfDepths(n int) [][]impl.Pile {
	lists := [][]impl.Pile{}
	forth := strings.Repeat(letters[:n], 2)
	back := []byte(forth)
	slices.Reverse(back)
	for _, round := range []string{forth, string(back)} {
		for length := 1; length <= n; length++ {
			for _, numbers := range [][]int{{2}, {5, 5, 1, 1, 1}, {1, 2, 2, 1, 3}, {1, 1, 9}, {20, 1}, {98, 99}, {4, 3, 2}} {
				texts := []string{}
				for k := range n {
					texts = append(texts, round[k:k+length])
				}
				slices.Sort(texts)
				list := piles(texts, numbers...)
				lists = append(lists, list)
				for _, nobody := range []int{1, 2, 4, 6, 8, 10, 98} {
					lists = append(lists, append([]impl.Pile{{Text: "", Many: nobody}}, list...))
				}
			}
		}
	}
	return lists
}

// eachPointing calls a check with many piles for all numbers of candidates.
func eachPointing(check func(list []impl.Pile, n int)) {
	eachPairing(check)
	for n := 1; n <= 5; n++ {
		for _, list := range pilesOfDepths(n) {
			check(list, n)
		}
	}
}

// eachPointContest calls a check with many piles and lots.
func eachPointContest(check func(list []impl.Pile, lots []int)) {
	eachRunoff(check)
	for n := 1; n <= 5; n++ {
		orders := someOrders(n)
		for i, list := range append(pilesOfDepths(n), pilesOfCircles(n)...) {
			check(list, orders[i%len(orders)])
			check(list, orders[(7*i+3)%len(orders)])
		}
	}
}

// pointExample is what was found by hand for piles; the last of the depths are the same for all greater ones.
type pointExample struct {
	list          []impl.Pile
	n             int
	depths        [][]int
	places, lasts []int
}

// checkPoints checks examples with all functions of points that return counts.
func checkPoints(t *testing.T, examples []pointExample) {
	t.Helper()
	for _, e := range examples {
		want := pointing{[][]int{make([]int, e.n)}, e.places, e.lasts}
		for depth := 1; depth <= 5; depth++ {
			want.depths = append(want.depths, e.depths[min(depth, len(e.depths))-1])
		}
		checkPointing(t, e.list, e.n, want)
		// What is due is right, too.
		if due := mustPoint(t, e.list, e.n); !samePoints(due, want) {
			t.Fatalf("the counts of %v for %d candidates are %v, not %v", e.list, e.n, due, want)
		}
	}
}

func TestPointExamples(t *testing.T) {
	list := piles([]string{"", "abc", "b", "ca", "cb"}, 7, 5, 4, 2, 1)
	checkPoints(t, []pointExample{
		{list, 3, [][]int{{5, 4, 3}, {7, 10, 3}, {7, 10, 8}}, []int{12, 14, 6}, []int{0, 0, 5}},
		// With further candidates, more are not named, and no ballot names all.
		{list, 4, [][]int{{5, 4, 3, 0}, {7, 10, 3, 0}, {7, 10, 8, 0}}, []int{19, 24, 14, 0}, []int{0, 0, 0, 0}},
		{list, 5, [][]int{{5, 4, 3, 0, 0}, {7, 10, 3, 0, 0}, {7, 10, 8, 0, 0}}, []int{26, 34, 22, 0, 0}, []int{0, 0, 0, 0, 0}},
		{piles([]string{"a", "bc", "cba"}, 4, 3, 2), 3, [][]int{{4, 3, 2}, {4, 5, 5}, {6, 5, 5}}, []int{8, 8, 7}, []int{2, 0, 0}},
		{piles([]string{"ab", "b", "ba"}, 3, 2, 1), 2, [][]int{{3, 3}, {4, 6}}, []int{3, 3}, []int{1, 3}},
		{piles([]string{"ab", "b", "ba"}, 3, 2, 1), 3, [][]int{{3, 3, 0}, {4, 6, 0}}, []int{7, 9, 0}, []int{0, 0, 0}},
		{piles([]string{"abc", "bca", "cab"}, 3, 2, 2), 3, [][]int{{3, 2, 2}, {5, 5, 4}, {7, 7, 7}}, []int{8, 7, 6}, []int{2, 2, 3}},
		// Each depth has one candidate more.
		{piles([]string{"dbace"}, 7), 5, [][]int{{0, 0, 0, 7, 0}, {0, 7, 0, 7, 0}, {7, 7, 0, 7, 0}, {7, 7, 7, 7, 0}, {7, 7, 7, 7, 7}}, []int{14, 21, 7, 28, 0}, []int{0, 0, 0, 0, 7}},
		{piles([]string{"dbac"}, 7), 5, [][]int{{0, 0, 0, 7, 0}, {0, 7, 0, 7, 0}, {7, 7, 0, 7, 0}, {7, 7, 7, 7, 0}}, []int{14, 21, 7, 28, 0}, []int{0, 0, 0, 0, 0}},
		{piles([]string{"dbac"}, 7), 4, [][]int{{0, 0, 0, 7}, {0, 7, 0, 7}, {7, 7, 0, 7}, {7, 7, 7, 7}}, []int{7, 14, 0, 21}, []int{0, 0, 7, 0}},
		{piles([]string{"abcde", "edcba"}, 2, 3), 5, [][]int{{2, 0, 0, 0, 3}, {2, 2, 0, 3, 3}, {2, 2, 5, 3, 3}, {2, 5, 5, 5, 3}, {5, 5, 5, 5, 5}}, []int{8, 9, 10, 11, 12}, []int{3, 0, 0, 0, 2}},
	})
}

func TestPointExamplesOfFewNames(t *testing.T) {
	for n := 1; n <= 5; n++ {
		none := make([]int, n)
		for _, list := range [][]impl.Pile{nil, {}, piles([]string{""}, 1), piles([]string{""}, 99)} {
			checkPoints(t, []pointExample{{list, n, [][]int{none}, none, none}})
		}
	}
	checkPoints(t, []pointExample{
		// One candidate alone is first and last, and there are no others.
		{piles([]string{"a"}, 1), 1, [][]int{{1}}, []int{0}, []int{1}},
		{piles([]string{"a"}, 99), 1, [][]int{{99}}, []int{0}, []int{99}},
		{piles([]string{"", "a"}, 99, 1), 1, [][]int{{1}}, []int{0}, []int{1}},
		// All others are not named: the place is ahead of all of them.
		{piles([]string{"a"}, 7), 2, [][]int{{7, 0}}, []int{7, 0}, []int{0, 0}},
		{piles([]string{"b"}, 7), 3, [][]int{{0, 7, 0}}, []int{0, 14, 0}, []int{0, 0, 0}},
		{piles([]string{"", "e"}, 99, 7), 5, [][]int{{0, 0, 0, 0, 7}}, []int{0, 0, 0, 0, 28}, []int{0, 0, 0, 0, 0}},
		{piles([]string{"a", "b", "c"}, 1, 2, 3), 3, [][]int{{1, 2, 3}}, []int{2, 4, 6}, []int{0, 0, 0}},
		// One candidate is not named: nobody is last.
		{piles([]string{"ab", "ac", "bc"}, 1, 2, 4), 3, [][]int{{3, 4, 0}, {3, 5, 6}}, []int{6, 9, 6}, []int{0, 0, 0}},
		{piles([]string{"ab", "ba"}, 1, 2), 2, [][]int{{1, 2}, {3, 3}}, []int{1, 2}, []int{2, 1}},
		{piles([]string{"abc", "abcd"}, 2, 1), 4, [][]int{{3, 0, 0, 0}, {3, 3, 0, 0}, {3, 3, 3, 0}, {3, 3, 3, 1}}, []int{9, 6, 3, 0}, []int{0, 0, 0, 1}},
		{piles([]string{"ec"}, 2), 5, [][]int{{0, 0, 0, 0, 2}, {0, 0, 2, 0, 2}}, []int{0, 0, 6, 0, 8}, []int{0, 0, 0, 0, 0}},
	})
}

// pointWinnersExample is who was found by hand for piles and lots.
type pointWinnersExample struct {
	list []impl.Pile
	lots []int
	want pointWinners
}

// checkPointWinners checks examples with both functions of points that return a winner.
func checkPointWinners(t *testing.T, examples []pointWinnersExample) {
	t.Helper()
	for _, e := range examples {
		who, depth := impl.DepthWinner(e.list, e.lots)
		if got := (pointWinners{who, depth, impl.PlaceWinner(e.list, e.lots)}); got != e.want {
			t.Errorf("the winners of %v with lots %v are %v, not %v", e.list, e.lots, got, e.want)
		}
		// What is due is right, too.
		if due := wonByPoints(e.list, e.lots); due != e.want {
			t.Errorf("the winners of %v with lots %v are due to be %v, not %v", e.list, e.lots, due, e.want)
		}
	}
}

func TestPointWinnersExamples(t *testing.T) {
	checkPointWinners(t, []pointWinnersExample{
		// There is a majority at the first depth.
		{piles([]string{"ab", "b"}, 3, 2), []int{1, 0}, pointWinners{0, 1, 0}},
		{piles([]string{"ab", "b"}, 3, 2), []int{1, 0, 2}, pointWinners{0, 1, 1}},
		{piles([]string{"a", "b", "cab"}, 1, 2, 4), []int{0, 1, 2}, pointWinners{2, 1, 2}},
		{piles([]string{"", "e"}, 98, 99), []int{0, 1, 2, 3, 4}, pointWinners{4, 1, 4}},
		// There is one at a later depth.
		{piles([]string{"", "abc", "b", "ca", "cb"}, 7, 5, 4, 2, 1), []int{2, 0, 1}, pointWinners{1, 2, 1}},
		{piles([]string{"ab", "b", "c", "cb"}, 4, 1, 3, 1), []int{0, 1, 2}, pointWinners{1, 2, 0}},
		{piles([]string{"abe", "bce", "cde", "dae"}, 3, 3, 3, 2), []int{0, 1, 2, 3, 4}, pointWinners{1, 2, 4}},
		{piles([]string{"", "abcd", "bdca"}, 5, 3, 3), []int{3, 2, 1, 0}, pointWinners{1, 2, 1}},
		{piles([]string{"ae", "bce", "cde", "dae"}, 2), []int{0, 1, 2, 3, 4}, pointWinners{4, 3, 4}},
		{piles([]string{"", "abd", "bcd", "cad"}, 3, 2, 2, 2), []int{3, 2, 1, 0, 4}, pointWinners{3, 3, 2}},
		{piles([]string{"", "abce", "bcde", "cdae", "dabe"}, 2, 1, 1, 1, 1), []int{2, 1, 3, 0, 4}, pointWinners{4, 4, 2}},
		// There is one at the depth of all candidates only.
		{piles([]string{"", "ab", "ba"}, 1, 2, 2), []int{1, 0}, pointWinners{1, 2, 1}},
		{piles([]string{"", "abc", "bca", "cab"}, 2, 1, 1, 1), []int{2, 0, 1}, pointWinners{2, 3, 2}},
		{piles([]string{"", "abcde", "bcdea", "cdeab", "deabc", "eabcd"}, 4, 1, 1, 1, 1, 1), []int{3, 1, 2, 0, 4}, pointWinners{3, 5, 3}},
		// There is none.
		{piles([]string{"", "a", "b"}, 1, 2, 1), []int{1, 0}, pointWinners{0, 2, 0}},
		{piles([]string{"a", "b", "c"}, 2, 1, 1), []int{1, 0, 2}, pointWinners{0, 3, 0}},
		{piles([]string{"", "ab", "b"}, 3, 1, 1), []int{0, 1, 2}, pointWinners{1, 3, 1}},
		{piles([]string{"", "dc", "de", "e"}, 99, 40, 30, 20), []int{0, 1, 2, 3, 4}, pointWinners{3, 5, 3}},
		// Another one is ahead at the first depth, or has most places.
		{piles([]string{"a", "bc", "cb", "cd"}, 4, 3, 1, 1), []int{0, 1, 2, 3}, pointWinners{2, 2, 0}},
		{piles([]string{"acd", "bcd", "dca"}, 3, 3, 1), []int{0, 1, 2, 3}, pointWinners{2, 2, 2}},
		{piles([]string{"abc", "acb", "bca"}, 3, 2, 4), []int{2, 1, 0}, pointWinners{0, 1, 1}},
	})
}

func TestPointWinnersExamplesOfHalfOfAllBallots(t *testing.T) {
	checkPointWinners(t, []pointWinnersExample{
		// One candidate has half of all ballots, but not more, at the first depth.
		{piles([]string{"ab", "c", "cb"}, 2, 1, 1), []int{0, 1, 2}, pointWinners{1, 2, 0}},
		{piles([]string{"ab", "c", "cb"}, 3, 1, 1), []int{0, 1, 2}, pointWinners{0, 1, 0}},
		{piles([]string{"ab", "ba"}, 99), []int{1, 0}, pointWinners{1, 2, 1}},
		{piles([]string{"a", "b"}, 1), []int{0, 1, 2, 3, 4}, pointWinners{0, 5, 0}},
		// Ballots that name nobody are among all of them.
		{piles([]string{"", "ab", "b"}, 1, 3, 2), []int{0, 1, 2}, pointWinners{1, 2, 1}},
		{piles([]string{"", "ab", "b"}, 5, 3, 2), []int{0, 1, 2}, pointWinners{1, 3, 1}},
		{piles([]string{"", "ab", "b"}, 4, 3, 2), []int{0, 1, 2}, pointWinners{1, 2, 1}},
		{piles([]string{"", "a"}, 7, 7), []int{1, 0}, pointWinners{0, 2, 0}},
		{piles([]string{"", "a"}, 7, 8), []int{1, 0}, pointWinners{0, 1, 0}},
		{piles([]string{"", "a"}, 8, 7), []int{1, 2, 3, 4, 0}, pointWinners{0, 5, 0}},
		// Half at a later depth is not enough, either.
		{piles([]string{"", "abc", "bac"}, 4, 2, 2), []int{0, 1, 2}, pointWinners{0, 3, 0}},
		{piles([]string{"", "abcd", "badc"}, 3, 2, 2), []int{3, 1, 2, 0}, pointWinners{1, 2, 1}},
		{piles([]string{"", "abcde", "bcdea", "cdeab", "deabc", "eabcd"}, 2, 2, 2, 2, 2, 2), []int{3, 1, 2, 0, 4}, pointWinners{3, 4, 3}},
		{piles([]string{"", "abcde", "bcdea", "cdeab", "deabc", "eabcd"}, 6, 2, 2, 2, 2, 2), []int{3, 1, 2, 0, 4}, pointWinners{3, 5, 3}},
	})
}

func TestPointWinnersExamplesOfEqualCounts(t *testing.T) {
	circle := piles([]string{"abc", "bca", "cab"}, 2)
	checkPointWinners(t, []pointWinnersExample{
		// Several have a majority at the same depth.
		{piles([]string{"a", "bc", "cba"}, 4, 3, 2), []int{0, 1, 2}, pointWinners{1, 2, 0}},
		{piles([]string{"a", "bc", "cba"}, 4, 3, 2), []int{2, 0, 1}, pointWinners{2, 2, 0}},
		{piles([]string{"a", "bc", "cba"}, 4, 3, 2), []int{2, 1, 0}, pointWinners{2, 2, 1}},
		{circle, []int{0, 1, 2}, pointWinners{0, 2, 0}}, {circle, []int{1, 2, 0}, pointWinners{1, 2, 1}}, {circle, []int{2, 0, 1}, pointWinners{2, 2, 2}},
		// Another one of them has less, and an earlier lot.
		{piles([]string{"abc", "bca", "cab"}, 2, 2, 3), []int{1, 2, 0}, pointWinners{2, 2, 2}},
		{piles([]string{"ab", "bc", "c"}, 3, 3, 2), []int{2, 0, 1}, pointWinners{1, 2, 1}},
		// Several have as many, but no majority.
		{piles([]string{"a", "b"}, 3), []int{0, 1}, pointWinners{0, 2, 0}}, {piles([]string{"a", "b"}, 3), []int{1, 0}, pointWinners{1, 2, 1}},
		{piles([]string{"a", "b", "c", "d", "e"}, 5), []int{3, 0, 1, 4, 2}, pointWinners{3, 5, 3}},
		{piles([]string{"b", "d"}, 5), []int{0, 4, 3, 2, 1}, pointWinners{3, 5, 3}},
		// Nobody has a ballot.
		{nil, []int{0, 1}, pointWinners{0, 2, 0}}, {nil, []int{1, 0}, pointWinners{1, 2, 1}}, {[]impl.Pile{}, []int{2, 0, 1}, pointWinners{2, 3, 2}}, {nil, []int{4, 2, 0, 1, 3}, pointWinners{4, 5, 4}},
		{piles([]string{""}, 1), []int{1, 2, 0}, pointWinners{1, 3, 1}}, {piles([]string{""}, 99), []int{3, 2, 0, 1}, pointWinners{3, 4, 3}},
		// There is one candidate alone.
		{nil, []int{0}, pointWinners{0, 1, 0}}, {piles([]string{""}, 99), []int{0}, pointWinners{0, 1, 0}}, {piles([]string{"a"}, 99), []int{0}, pointWinners{0, 1, 0}}, {piles([]string{"", "a"}, 99, 1), []int{0}, pointWinners{0, 1, 0}}, {piles([]string{"", "a"}, 1, 1), []int{0}, pointWinners{0, 1, 0}},
	})
}

func TestPointWinnersExamplesOfInvalidArguments(t *testing.T) {
	for _, e := range []struct {
		list []impl.Pile
		lots []int
	}{
		// The lots are invalid.
		{nil, nil}, {nil, []int{}}, {nil, []int{1}}, {piles([]string{"a"}, 1), nil}, {piles([]string{"a"}, 1), []int{1}}, {piles([]string{"a", "b"}, 1), []int{0, 0}}, {piles([]string{"a", "b"}, 1), []int{1, 2}}, {piles([]string{"a", "b"}, 1), []int{0, -1}}, {piles([]string{"a", "b"}, 1), []int{0, 1, 2, 3, 4, 5}},
		// There are lots of too few candidates.
		{piles([]string{"a", "b"}, 3, 2), []int{0}}, {piles([]string{"ab"}, 3), []int{0}}, {piles([]string{"a", "b", "bc"}, 3, 2, 1), []int{1, 0}}, {piles([]string{"e"}, 1), []int{3, 2, 1, 0}},
		// Piles are invalid.
		{piles([]string{"b", "a"}, 1), []int{0, 1}}, {piles([]string{"a"}, 0), []int{0, 1}}, {piles([]string{"a"}, 100), []int{0}}, {piles([]string{"a", "a"}, 1), []int{0}}, {piles([]string{"f"}, 1), []int{0, 1, 2, 3, 4}},
	} {
		checkNoPointWinner(t, e.list, e.lots)
	}
}

func TestPointsOfTheMostBallots(t *testing.T) {
	// There are as many piles as there can be, all of them as large as they can be.
	texts := slices.DeleteFunc(ballotTexts(), func(text string) bool { return !strings.HasPrefix(text, "ed") })[:12]
	list := piles(texts, 99)
	if got := mustPoint(t, list, 5); got.depths[1][4] != 1188 || got.depths[2][3] != 1188 || got.depths[5][4] != 1188 || got.places[4] != 4752 || got.places[3] != 3564 {
		t.Errorf("the counts of 1188 ballots are %v", got)
	}
	if got := mustWinByPoints(t, list, []int{0, 1, 2, 3, 4}); got != (pointWinners{4, 1, 4}) {
		t.Errorf("the winners of 1188 ballots are %v", got)
	}
	// All of these have the same last one.
	texts = slices.DeleteFunc(ballotTexts(), func(text string) bool { return len(text) != 5 || text[4] != 'c' })
	for start := 0; start+12 <= len(texts); start++ {
		list := piles(texts[start:start+12], 99)
		if got := mustPoint(t, list, 5); got.lasts[2] != 1188 || got.depths[4][2] != 0 || got.depths[5][2] != 1188 || got.places[2] != 0 || sumOfCounts(got.places) != 11880 {
			t.Fatalf("the counts of %v are %v", list, got)
		}
		mustWinByPoints(t, list, []int{2, 4, 0, 1, 3})
		// There is one pile, or one ballot, too many.
		checkNoPoints(t, append(slices.Clone(list), impl.Pile{Text: "edcba", Many: 1}), 5)
		checkNoPointWinner(t, append(slices.Clone(list), impl.Pile{Text: "edcba", Many: 1}), []int{2, 4, 0, 1, 3})
		list[start%12].Many++
		checkNoPoints(t, list, 5)
		checkNoPointWinner(t, list, []int{2, 4, 0, 1, 3})
	}
}

func TestPointsOfSinglePiles(t *testing.T) {
	for _, text := range append(ballotTexts(), badTexts...) {
		for _, many := range []int{1, 99, 0, 100} {
			list := piles([]string{text}, many)
			for n := range 7 {
				if !doFit(list, n) {
					checkNoPoints(t, list, n)
					continue
				}
				mustPoint(t, list, n)
				lots := ordersOf(n)[len(text)*many%factorial(n)]
				want := pointWinners{lots[0], n, lots[0]}
				if text != "" {
					// All ballots have the same first candidate.
					first := strings.Index(letters, text[:1])
					want = pointWinners{first, 1, first}
				}
				if got := mustWinByPoints(t, list, lots); got != want {
					t.Fatalf("the winners of %v with lots %v are %v, not %v", list, lots, got, want)
				}
			}
		}
	}
}

func TestPointsOfInvalidPiles(t *testing.T) {
	for _, list := range invalidPiles() {
		for n := range 8 {
			checkNoPoints(t, list, n)
		}
		checkNoPoints(t, list, -1)
		for n := 1; n <= 5; n++ {
			checkNoPointWinner(t, list, ordersOf(n)[0])
			checkNoPointWinner(t, list, ordersOf(n)[factorial(n)-1])
		}
		checkNoPointWinner(t, list, nil)
		checkNoPointWinner(t, list, []int{0, 0})
	}
}

func TestPointsOfNoNumberOfCandidates(t *testing.T) {
	for _, list := range append(manyPiles(), nil, []impl.Pile{}, piles([]string{""}, 1), piles([]string{"a"}, 99)) {
		for _, n := range append([]int{0}, oddNumbers...) {
			checkNoPoints(t, list, n)
		}
	}
}

func TestPointsOfNoDepth(t *testing.T) {
	for _, list := range append(manyPiles(), nil, []impl.Pile{}, piles([]string{""}, 1), piles([]string{"a"}, 99)) {
		for n := range 7 {
			for _, depth := range badDepths {
				checkNoDepth(t, list, n, depth)
			}
		}
	}
}

func TestPointsOfTooFewCandidates(t *testing.T) {
	for n := 1; n <= 4; n++ {
		for _, text := range ballotTexts() {
			for _, others := range [][]string{{}, {""}, {"", "a"}} {
				list := piles(append(slices.Clone(others), text), 2)
				if arePiles(list) && !doFit(list, n) {
					checkNoPoints(t, list, n)
					checkNoPointWinner(t, list, ordersOf(n)[0])
				}
			}
		}
	}
	// One ballot of one pile is enough, wherever it is on this ballot.
	for _, text := range []string{"cad", "cda", "d"} {
		list := piles([]string{"", "a", "ab", "ac", "acb", "b", "ba", "bc", "bca", "c", "ca", text}, 99, 1)
		mustPoint(t, list, 4)
		mustPoint(t, list, 5)
		mustWinByPoints(t, list, []int{3, 2, 1, 0})
		mustWinByPoints(t, list, []int{4, 3, 2, 1, 0})
		checkNoPoints(t, list, 3)
		checkNoPointWinner(t, list, []int{2, 1, 0})
	}
}

func TestPointWinnersOfInvalidLots(t *testing.T) {
	for _, list := range [][]impl.Pile{nil, piles([]string{""}, 1), piles([]string{"a"}, 1), piles([]string{"a", "b"}, 2, 1), piles([]string{"abcde", "edcba"}, 99), piles(ballotTexts()[:12], 1)} {
		for _, lots := range append(listsOf(-1, 5, 4), invalidLots()...) {
			if !areLots(lots) {
				checkNoPointWinner(t, list, lots)
			}
		}
	}
}

func TestPointWinnersOfAllNumbersOfLots(t *testing.T) {
	won, refused := 0, 0
	for _, list := range manyPiles() {
		for n := 1; n <= 5; n++ {
			lots := ordersOf(n)[len(list)%factorial(n)]
			if doFit(list, n) {
				mustWinByPoints(t, list, lots)
				won++
			} else {
				checkNoPointWinner(t, list, lots)
				refused++
			}
		}
	}
	if won < 100 || refused < 100 {
		t.Errorf("%d contests have winners, and %d have none", won, refused)
	}
}

func TestPointsOfManyPiles(t *testing.T) {
	fewer, nobody, all, refused := 0, 0, 0, 0
	eachPointing(func(list []impl.Pile, n int) {
		mustPoint(t, list, n)
		for _, p := range list {
			switch len(p.Text) {
			case 0:
				nobody++
			case n:
				all++
			default:
				fewer++
			}
		}
		if strings.Contains(textsTogether(list), letters[n-1:n]) {
			checkNoPoints(t, list, n-1)
			refused++
		}
	})
	if fewer < 1000 || nobody < 1000 || all < 1000 || refused < 1000 {
		t.Errorf("%d piles name few candidates, %d nobody, and %d all; %d do not fit one candidate less", fewer, nobody, all, refused)
	}
}

func TestPointWinnersOfManyPiles(t *testing.T) {
	others, winners := 0, map[pointWinners]int{}
	eachPointContest(func(list []impl.Pile, lots []int) {
		got := mustWinByPoints(t, list, lots)
		if got.who != got.place {
			others++
		}
		winners[pointWinners{got.who, 0, -1}]++
		winners[pointWinners{-1, 0, got.place}]++
	})
	for c := range 5 {
		if depth, place := winners[pointWinners{c, 0, -1}], winners[pointWinners{-1, 0, c}]; depth < 100 || place < 100 {
			t.Errorf("%d wins %d times by depth, and %d times by place", c, depth, place)
		}
	}
	if others < 1000 {
		t.Errorf("only %d times another one wins by place", others)
	}
}

func TestPromise64CountsOfTheDepths(t *testing.T) {
	more, most := map[int]int{}, 0
	eachPointing(func(list []impl.Pile, n int) {
		got, total := pointsOf(t, list, n), impl.PilesTotal(list)
		if !slices.Equal(got.depths[0], make([]int, n)) {
			t.Fatalf("DepthCounts(%v, %d, 0) returned %v", list, n, got.depths[0])
		}
		if first, ok := impl.FirstCounts(list, make([]bool, n)); !ok || !slices.Equal(got.depths[1], first) {
			t.Fatalf("DepthCounts(%v, %d, 1) returned %v, and FirstCounts %v, %v", list, n, got.depths[1], first, ok)
		}
		for depth := 1; depth <= 5; depth++ {
			for c, many := range got.depths[depth] {
				if many < got.depths[depth-1][c] || many > total {
					t.Fatalf("DepthCounts(%v, %d, %d) returned %v, of %d ballots, after %v", list, n, depth, got.depths[depth], total, got.depths[depth-1])
				}
				if many > got.depths[depth-1][c] {
					more[depth]++
				}
				if many == total && total > 0 {
					most++
				}
			}
		}
	})
	for depth := 1; depth <= 5; depth++ {
		if more[depth] < 100 {
			t.Errorf("only %d counts have grown at depth %d", more[depth], depth)
		}
	}
	if most < 1000 {
		t.Errorf("only %d counts have all ballots", most)
	}
}

func TestPromise64DepthsBeyondAllCandidates(t *testing.T) {
	eachPointing(func(list []impl.Pile, n int) {
		got := pointsOf(t, list, n)
		for depth := n; depth <= 5; depth++ {
			for c, many := range got.depths[depth] {
				named := 0
				for _, p := range list {
					if strings.Contains(p.Text, letters[c:c+1]) {
						named += p.Many
					}
				}
				if many != named {
					t.Fatalf("DepthCounts(%v, %d, %d) returned %v, but %d ballots name %d", list, n, depth, got.depths[depth], named, c)
				}
			}
		}
	})
}

func TestPromise65SumIsThatOfAllLengths(t *testing.T) {
	sums := 0
	eachPointing(func(list []impl.Pile, n int) {
		counts, ok := impl.DepthCounts(list, n, impl.ChoiceMax)
		lengths := 0
		for _, p := range list {
			lengths += len(p.Text) * p.Many
		}
		if !ok || sumOfCounts(counts) != lengths {
			t.Fatalf("DepthCounts(%v, %d, ChoiceMax) returned %v, %v, but the sum of all lengths is %d", list, n, counts, ok, lengths)
		}
		if lengths > totalOf(list) {
			sums++
		}
	})
	if sums < 1000 {
		t.Errorf("only %d sums are more than the total", sums)
	}
}

func TestPromise65ALesserDepthCountsLessOfEachBallot(t *testing.T) {
	eachPointing(func(list []impl.Pile, n int) {
		got := pointsOf(t, list, n)
		for depth := range 6 {
			lengths := 0
			for _, p := range list {
				lengths += min(depth, len(p.Text)) * p.Many
			}
			if sumOfCounts(got.depths[depth]) != lengths {
				t.Fatalf("DepthCounts(%v, %d, %d) returned %v, but the sum of all lengths up to there is %d", list, n, depth, got.depths[depth], lengths)
			}
		}
	})
}

func TestPromise66NobodyHasMore(t *testing.T) {
	depths, noMajority, decided := map[[2]int]int{}, map[int]int{}, 0
	eachPointContest(func(list []impl.Pile, lots []int) {
		n, total := len(lots), impl.PilesTotal(list)
		got, counts := winnersOf(t, list, lots), pointsOf(t, list, n).depths
		best := counts[got.depth][got.who]
		for c, many := range counts[got.depth] {
			if many > best {
				t.Fatalf("%d wins %v with lots %v at depth %d, though %d has more: %v", got.who, list, lots, got.depth, c, counts)
			}
			if many == best && c != got.who {
				decided++
				if slices.Index(lots, c) < slices.Index(lots, got.who) {
					t.Fatalf("%d wins %v with lots %v at depth %d, though %d has an earlier lot: %v", got.who, list, lots, got.depth, c, counts)
				}
			}
		}
		for depth := 1; depth < got.depth; depth++ {
			if 2*slices.Max(counts[depth]) > total {
				t.Fatalf("%d wins %v with lots %v at depth %d, though one has a majority at depth %d: %v", got.who, list, lots, got.depth, depth, counts)
			}
		}
		switch {
		case 2*best > total:
			depths[[2]int{n, got.depth}]++
		case got.depth != n:
			t.Fatalf("%d wins %v with lots %v at depth %d without a majority: %v", got.who, list, lots, got.depth, counts)
		default:
			noMajority[n]++
		}
	})
	for n := 1; n <= 5; n++ {
		for depth := 1; depth <= n; depth++ {
			if depths[[2]int{n, depth}] < 5 {
				t.Errorf("of %d candidates, only %d times one has a majority at depth %d", n, depths[[2]int{n, depth}], depth)
			}
		}
		if noMajority[n] < 10 {
			t.Errorf("of %d candidates, only %d times nobody has a majority", n, noMajority[n])
		}
	}
	if decided < 1000 {
		t.Errorf("only %d others have as many", decided)
	}
}

func TestPromise66AtHalfOfAllBallots(t *testing.T) {
	for others := 2; others <= 99; others++ {
		for many := max(others-1, 2); many <= min(others+1, 99); many++ {
			for depth, list := range [][]impl.Pile{
				1: piles([]string{"", "a", "b"}, others-1, many, 1),
				2: piles([]string{"", "a", "ba"}, others, 1, many-1),
				3: piles([]string{"", "a", "bca"}, others, 1, many-1),
			} {
				if depth == 0 {
					continue
				}
				if many <= others {
					depth = 4
				}
				for _, lots := range [][]int{{0, 1, 2, 3}, {3, 2, 1, 0}} {
					if got := mustWinByPoints(t, list, lots); got.who != 0 || got.depth != depth {
						t.Fatalf("the winners of %v with lots %v are %v", list, lots, got)
					}
				}
			}
		}
	}
}

// checkEachLot checks that the lots decide between those who have two ballots alone, in piles in which all others have one.
func checkEachLot(t *testing.T, winner func(got pointWinners) int) {
	t.Helper()
	for n := 1; n <= 5; n++ {
		for _, some := range masksOf(n) {
			list := []impl.Pile{}
			for c, one := range some {
				many := 1
				if one {
					many = 2
				}
				list = append(list, impl.Pile{Text: letters[c : c+1], Many: many})
			}
			for _, lots := range ordersOf(n) {
				want := lots[0]
				if slices.Contains(some, true) {
					want = impl.LotsFirst(lots, some)
				}
				if got := mustWinByPoints(t, list, lots); winner(got) != want {
					t.Fatalf("the winners of %v with lots %v are %v", list, lots, got)
				}
			}
		}
	}
}

func TestPromise66EachLotDecides(t *testing.T) {
	checkEachLot(t, func(got pointWinners) int { return got.who })
	// Three have a majority at the second depth.
	list := piles([]string{"abde", "bcde", "cade"}, 2)
	for _, lots := range ordersOf(5) {
		want := impl.LotsFirst(lots, []bool{true, true, true, false, false})
		if got := mustWinByPoints(t, list, lots); got.who != want || got.depth != 2 {
			t.Fatalf("the winners of %v with lots %v are %v", list, lots, got)
		}
	}
}

func TestPromise67TheFirstDepthIsPlurality(t *testing.T) {
	first, later, changed := 0, 0, 0
	eachPointContest(func(list []impl.Pile, lots []int) {
		got, plurality := winnersOf(t, list, lots), impl.PluralityWinner(list, lots)
		counts, ok := impl.FirstCounts(list, make([]bool, len(lots)))
		if !ok {
			t.Fatalf("FirstCounts(%v) failed", list)
		}
		majority := 2*counts[plurality] > impl.PilesTotal(list)
		if got.depth == 1 {
			first++
		} else {
			later++
		}
		switch {
		case got.depth == 1 && got.who != plurality:
			t.Fatalf("%d wins %v with lots %v at depth 1, but %d by plurality", got.who, list, lots, plurality)
		case (got.depth == 1) != (majority || len(lots) == 1):
			t.Fatalf("%d wins %v with lots %v at depth %d, though %d has %d ballots", got.who, list, lots, got.depth, plurality, counts[plurality])
		case got.who != plurality:
			changed++
		}
	})
	if first < 1000 || later < 1000 || changed < 1000 {
		t.Errorf("%d depths are 1, and %d are greater; %d winners are not those of plurality", first, later, changed)
	}
}

func TestPromise68PlacesAreThoseOfPairs(t *testing.T) {
	counts := 0
	eachPointing(func(list []impl.Pile, n int) {
		places, ok := impl.PlaceCounts(list, n)
		pairs, fine := impl.PairCounts(list, n)
		if !ok || !fine || len(places) != n {
			t.Fatalf("PlaceCounts(%v, %d) returned %v, %v, and PairCounts %v, %v", list, n, places, ok, pairs, fine)
		}
		for c, many := range places {
			if sumOfCounts(pairs[c]) != many {
				t.Fatalf("PlaceCounts(%v, %d) returned %v, and PairCounts %v", list, n, places, pairs)
			}
			if many > impl.PilesTotal(list) {
				counts++
			}
		}
	})
	if counts < 1000 {
		t.Errorf("only %d counts are greater than the total", counts)
	}
}

func TestPromise68AFurtherCandidateIsBehindAllNamed(t *testing.T) {
	eachPointing(func(list []impl.Pile, n int) {
		if n == 5 {
			return
		}
		got, more := pointsOf(t, list, n), pointsOf(t, list, n+1)
		for c, many := range more.places {
			due := 0
			if c < n {
				due = got.places[c] + got.depths[5][c]
			}
			if many != due {
				t.Fatalf("PlaceCounts(%v) is %v for %d candidates, and %v for one more", list, got.places, n, more.places)
			}
		}
	})
}

func TestPromise69NobodyHasMorePlaces(t *testing.T) {
	decided, clear := 0, 0
	eachPointContest(func(list []impl.Pile, lots []int) {
		got, counts := winnersOf(t, list, lots), pointsOf(t, list, len(lots)).places
		equals := 0
		for c, many := range counts {
			if many > counts[got.place] {
				t.Fatalf("%d wins %v with lots %v by place, though %d has more: %v", got.place, list, lots, c, counts)
			}
			if many == counts[got.place] && c != got.place {
				equals++
				if slices.Index(lots, c) < slices.Index(lots, got.place) {
					t.Fatalf("%d wins %v with lots %v by place, though %d has an earlier lot: %v", got.place, list, lots, c, counts)
				}
			}
		}
		if equals > 0 {
			decided++
		} else {
			clear++
		}
	})
	if decided < 1000 || clear < 1000 {
		t.Errorf("%d winners were decided by lots, and %d by counts", decided, clear)
	}
}

func TestPromise69EachLotDecides(t *testing.T) {
	checkEachLot(t, func(got pointWinners) int { return got.place })
}

// nameAll reports whether all ballots name all of n candidates.
func nameAll(list []impl.Pile, n int) bool {
	return !slices.ContainsFunc(list, func(p impl.Pile) bool { return len(p.Text) != n })
}

// checkNotTheLeast checks that the winner of pairs, if there is one, has more places than another one, and tells whether nobody has more.
func checkNotTheLeast(t *testing.T, list []impl.Pile, n int) (winner int, most bool) {
	t.Helper()
	winner = impl.PairWinner(list, n)
	counts := pointsOf(t, list, n).places
	if winner != -1 && counts[winner] <= slices.Min(counts) {
		t.Fatalf("%d wins the pairs of %v, but nobody has fewer places: %v", winner, list, counts)
	}
	return winner, winner != -1 && counts[winner] == slices.Max(counts)
}

func TestPromise69TheWinnerOfPairsIsNotTheLeast(t *testing.T) {
	won, none := 0, 0
	eachPointing(func(list []impl.Pile, n int) {
		if n == 1 || !nameAll(list, n) {
			return
		}
		if winner, _ := checkNotTheLeast(t, list, n); winner == -1 {
			none++
		} else {
			won++
		}
	})
	if won < 100 || none < 100 {
		t.Errorf("somebody wins the pairs %d times, and nobody %d times", won, none)
	}
}

func TestPromise69TheWinnerOfPairsHasNotMostPlaces(t *testing.T) {
	for n := 3; n <= 5; n++ {
		for _, order := range ordersOf(n) {
			for many := 3; many <= 99; many += 32 {
				// The first one beats all others by one ballot, and is last on all others.
				texts := append(slices.Repeat([]string{lettersOf(order)}, many), slices.Repeat([]string{lettersOf(append(slices.Clone(order[1:]), order[0]))}, many-1)...)
				if winner, most := checkNotTheLeast(t, piled(texts), n); winner != order[0] || most {
					t.Fatalf("%d wins the pairs of %v, and has the most places: %v", winner, piled(texts), most)
				}
				if got := mustWinByPoints(t, piled(texts), order); got.place != order[1] {
					t.Fatalf("the winners of %v with lots %v are %v", piled(texts), order, got)
				}
			}
		}
	}
}

func TestPromise69OneCandidateAlone(t *testing.T) {
	// The winner of pairs has no place ahead of others, and nobody has less.
	for _, list := range [][]impl.Pile{nil, piles([]string{"a"}, 99), piles([]string{"", "a"}, 1, 2)} {
		if winner, got := impl.PairWinner(list, 1), mustPoint(t, list, 1); winner != 0 || !slices.Equal(got.places, []int{0}) {
			t.Errorf("%d wins the pairs of %v, and the places are %v", winner, list, got.places)
		}
		if got := mustWinByPoints(t, list, []int{0}); got != (pointWinners{0, 1, 0}) {
			t.Errorf("the winners of %v are %v", list, got)
		}
	}
}

// turnedPointing returns counts in which two candidates are exchanged.
func turnedPointing(p pointing, x int, y int) pointing {
	turned := pointing{}
	for _, counts := range append(slices.Clone(p.depths), p.places, p.lasts) {
		other := slices.Clone(counts)
		other[x], other[y] = other[y], other[x]
		turned.depths = append(turned.depths, other)
	}
	turned.places, turned.lasts = turned.depths[6], turned.depths[7]
	turned.depths = turned.depths[:6]
	return turned
}

func TestPromise70TheWinnerExchanged(t *testing.T) {
	changed, contests := 0, 0
	eachPointContest(func(list []impl.Pile, lots []int) {
		// All contests would take long, and a fifth of them still has all lots.
		if contests++; contests%5 != 0 {
			return
		}
		n := len(lots)
		got, counts := winnersOf(t, list, lots), pointsOf(t, list, n)
		for x := range lots {
			for y := range x + 1 {
				turned, ok := impl.PilesTurn(list, x, y)
				if !ok {
					t.Fatalf("PilesTurn(%v, %d, %d) failed", list, x, y)
				}
				want := pointWinners{turnedNumber(got.who, x, y), got.depth, turnedNumber(got.place, x, y)}
				if other := winnersOf(t, turned, turnedNumbers(lots, x, y)); other != want {
					t.Fatalf("the winners of %v with lots %v are %v, and with %d and %d exchanged %v", list, lots, got, x, y, other)
				}
				if want.place != got.place {
					changed++
				}
				checkPointing(t, turned, n, turnedPointing(counts, x, y))
			}
		}
	})
	if changed < 1000 {
		t.Errorf("only %d winners have been exchanged", changed)
	}
}

func TestPromise71SumOfLastCounts(t *testing.T) {
	none, some, all := 0, 0, 0
	eachPointing(func(list []impl.Pile, n int) {
		if n == 1 {
			return
		}
		counts, ok := impl.LastCounts(list, n)
		full, first := 0, make([]int, n)
		for _, p := range list {
			if len(p.Text) == n {
				full += p.Many
				first[strings.Index(letters, p.Text[:1])] += p.Many
			}
		}
		if !ok || len(counts) != n || sumOfCounts(counts) != full {
			t.Fatalf("LastCounts(%v, %d) returned %v, %v, but %d ballots name all candidates", list, n, counts, ok, full)
		}
		for c, many := range counts {
			if many < 0 || many > full-first[c] {
				t.Fatalf("LastCounts(%v, %d) returned %v, but %d of %d ballots name %d first", list, n, counts, first[c], full, c)
			}
		}
		switch full {
		case 0:
			none++
		case totalOf(list):
			all++
		default:
			some++
		}
	})
	if none < 1000 || some < 1000 || all < 100 {
		t.Errorf("no ballots name all candidates %d times, some %d times, and all %d times", none, some, all)
	}
}

func TestPromise71LastOnEachBallot(t *testing.T) {
	for n := 1; n <= 5; n++ {
		for _, text := range textsFor(n) {
			want := make([]int, n)
			if len(text) == n {
				want[strings.Index(letters, text[n-1:])] = 7
			}
			if got, ok := impl.LastCounts(piles([]string{text}, 7), n); !ok || !slices.Equal(got, want) {
				t.Fatalf("LastCounts of %q for %d candidates returned %v, %v", text, n, got, ok)
			}
		}
	}
}

func TestPointArgumentsAreNotChanged(t *testing.T) {
	for _, list := range append(append(manyPiles(), invalidPiles()...), nil) {
		for n := range 7 {
			// What is in the spare capacity belongs to the caller, too.
			own := append(slices.Clone(list), sparePiles...)
			given := own[:len(list)]
			order := append(slices.Clone([]int{3, 1, 0, 2, 4, 5}[:n]), 41, 42)
			numbers := slices.Clone(order)
			for depth := range 7 {
				impl.DepthCounts(given, n, depth)
			}
			impl.PlaceCounts(given, n)
			impl.LastCounts(given, n)
			impl.DepthWinner(given, numbers[:n])
			impl.PlaceWinner(given, numbers[:n])
			if !slices.Equal(own, append(slices.Clone(list), sparePiles...)) || !slices.Equal(numbers, order) {
				t.Fatalf("%.100v and %v have become %.100v and %v", list, order, own, numbers)
			}
		}
	}
}

func TestPointCountsShareNoMemory(t *testing.T) {
	eachPointing(func(list []impl.Pile, n int) {
		own := slices.Clone(list)
		first, second, want := pointsOf(t, own, n), pointsOf(t, own, n), mustPoint(t, list, n)
		for _, counts := range first.depths {
			spoil(counts)
		}
		spoil(first.places)
		spoil(first.lasts)
		// Nothing reads the argument any more.
		for i := range own {
			own[i] = impl.Pile{Text: "?", Many: -7}
		}
		checkPointing(t, list, n, want)
		if !samePoints(second, want) {
			t.Fatalf("the counts of %v are %v, and have become %v", list, want, second)
		}
	})
}

func TestPointsAreTheSameAtTheSameTime(t *testing.T) {
	list := piles([]string{"", "ab", "ba", "bac", "c", "cab", "cda", "dc", "dea", "e", "ead", "edc"}, 9, 8, 7, 6, 5)
	lots := []int{4, 3, 2, 1, 0}
	counts, want := mustPoint(t, list, 5), mustWinByPoints(t, list, lots)
	var callers sync.WaitGroup
	for range 8 {
		callers.Go(func() {
			for range 200 {
				for depth := range 6 {
					if got, ok := impl.DepthCounts(list, 5, depth); !ok || !slices.Equal(got, counts.depths[depth]) {
						t.Errorf("the counts of depth %d are %v, not %v", depth, got, counts.depths[depth])
					}
				}
				places, ok := impl.PlaceCounts(list, 5)
				lasts, fine := impl.LastCounts(list, 5)
				if !ok || !fine || !slices.Equal(places, counts.places) || !slices.Equal(lasts, counts.lasts) {
					t.Errorf("the counts are %v and %v, not %v and %v", places, lasts, counts.places, counts.lasts)
				}
				who, depth := impl.DepthWinner(list, lots)
				if who != want.who || depth != want.depth || impl.PlaceWinner(list, lots) != want.place {
					t.Error("the winners have changed")
				}
			}
		})
	}
	callers.Wait()
}
