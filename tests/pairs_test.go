package tests

import (
	"slices"
	"strings"
	"sync"
	"testing"

	"loop.example/tallyaudit/impl"
)

// pairing is what the functions of pairs return for piles.
type pairing struct {
	counts [][]int
	winner int
	top    []int
	paths  [][]int
	best   []int
}

// pairStep is a step of a path: how many ballots more than half prefer a candidate to another one.
type pairStep struct {
	from, to, many int
}

// table returns numbers for each of n candidates and each one.
func table(n int, number func(x int, y int) int) [][]int {
	rows := [][]int{}
	for x := range n {
		row := []int{}
		for y := range n {
			row = append(row, number(x, y))
		}
		rows = append(rows, row)
	}
	return rows
}

// sameTable reports whether tables are the same.
func sameTable(a [][]int, b [][]int) bool {
	return slices.EqualFunc(a, b, slices.Equal)
}

// allOf returns all of n candidates.
func allOf(n int) []int {
	all := []int{}
	for c := range n {
		all = append(all, c)
	}
	return all
}

// zeros returns a table of n candidates without any ballot.
func zeros(n int) [][]int {
	return table(n, func(int, int) int { return 0 })
}

// names reports whether a text names a candidate, and does so ahead of another one.
func names(text string, x int, y int) bool {
	ahead, _, _ := strings.Cut(text, letters[y:y+1])
	return strings.Contains(ahead, letters[x:x+1])
}

// strongestPath is what the document says of a path, in other words: all paths that visit nobody twice are tried.
func strongestPath(counts [][]int, x int, y int, visited []int) int {
	strongest := 0
	for z := range counts {
		if z == x || slices.Contains(visited, z) || counts[x][z] <= counts[z][x] {
			continue
		}
		strength := counts[x][z]
		if z != y {
			strength = min(strength, strongestPath(counts, z, y, append(slices.Clone(visited), x)))
		}
		strongest = max(strongest, strength)
	}
	return strongest
}

// overAll returns those of n candidates who are over each other one.
func overAll(n int, over func(x int, y int) bool) []int {
	return slices.DeleteFunc(allOf(n), func(x int) bool {
		return slices.ContainsFunc(allOf(n), func(y int) bool { return y != x && !over(x, y) })
	})
}

// leastTop is what the document says of PairTop, in other words: all sets are tried.
func leastTop(counts [][]int) []int {
	n := len(counts)
	least := allOf(n)
	for _, mask := range masksOf(n) {
		some := []int{}
		closed := true
		for x, in := range mask {
			if !in {
				continue
			}
			some = append(some, x)
			for y, other := range mask {
				closed = closed && (other || counts[x][y] > counts[y][x])
			}
		}
		if closed && len(some) > 0 && len(some) < len(least) {
			least = some
		}
	}
	return least
}

// compared is what the document says of chapter 13, in other words.
func compared(list []impl.Pile, n int) (pairing, bool) {
	if !doFit(list, n) {
		return pairing{winner: -1}, false
	}
	counts := table(n, func(x int, y int) int {
		many := 0
		for _, p := range list {
			if x != y && names(p.Text, x, y) {
				many += p.Many
			}
		}
		return many
	})
	paths := table(n, func(x int, y int) int {
		if x == y {
			return 0
		}
		return strongestPath(counts, x, y, nil)
	})
	winner := -1
	for _, x := range overAll(n, func(x int, y int) bool { return counts[x][y] > counts[y][x] }) {
		winner = x
	}
	best := overAll(n, func(x int, y int) bool { return paths[x][y] >= paths[y][x] })
	return pairing{counts: counts, winner: winner, top: leastTop(counts), paths: paths, best: best}, true
}

// checkPairing checks all functions of pairs.
func checkPairing(t *testing.T, list []impl.Pile, n int, want pairing) {
	t.Helper()
	if counts, ok := impl.PairCounts(list, n); !ok || !sameTable(counts, want.counts) {
		t.Fatalf("PairCounts(%v, %d) returned %v, %v, not %v", list, n, counts, ok, want.counts)
	}
	if winner := impl.PairWinner(list, n); winner != want.winner {
		t.Fatalf("PairWinner(%v, %d) returned %d, not %d", list, n, winner, want.winner)
	}
	if top := impl.PairTop(list, n); !slices.Equal(top, want.top) {
		t.Fatalf("PairTop(%v, %d) returned %v, not %v", list, n, top, want.top)
	}
	if paths, ok := impl.PairPaths(list, n); !ok || !sameTable(paths, want.paths) {
		t.Fatalf("PairPaths(%v, %d) returned %v, %v, not %v", list, n, paths, ok, want.paths)
	}
	if best := impl.PairBest(list, n); !slices.Equal(best, want.best) {
		t.Fatalf("PairBest(%v, %d) returned %v, not %v", list, n, best, want.best)
	}
}

// mustCompare returns what the functions of pairs return, which must be what is due, and exist.
func mustCompare(t *testing.T, list []impl.Pile, n int) pairing {
	t.Helper()
	want, ok := compared(list, n)
	if !ok {
		t.Fatalf("%v do not fit %d candidates", list, n)
	}
	checkPairing(t, list, n, want)
	return want
}

// pairsOf returns what the functions of pairs return for piles that fit, without a look at what is due.
func pairsOf(t *testing.T, list []impl.Pile, n int) pairing {
	t.Helper()
	counts, ok := impl.PairCounts(list, n)
	paths, fine := impl.PairPaths(list, n)
	got := pairing{counts: counts, winner: impl.PairWinner(list, n), top: impl.PairTop(list, n), paths: paths, best: impl.PairBest(list, n)}
	if !ok || !fine || len(counts) != n || len(paths) != n || got.winner < -1 || got.winner >= n {
		t.Fatalf("the pairs of %v for %d candidates are %v, %v and %v", list, n, got, ok, fine)
	}
	for x := range n {
		if len(counts[x]) != n || len(paths[x]) != n {
			t.Fatalf("the pairs of %v for %d candidates are %v", list, n, got)
		}
	}
	for _, some := range [][]int{got.top, got.best} {
		for _, x := range some {
			if x < 0 || x >= n {
				t.Fatalf("the pairs of %v for %d candidates are %v", list, n, got)
			}
		}
	}
	return got
}

// checkNoPairs tells if a function of pairs returns something.
func checkNoPairs(t *testing.T, list []impl.Pile, n int) {
	t.Helper()
	if counts, ok := impl.PairCounts(list, n); ok || len(counts) != 0 {
		t.Fatalf("PairCounts(%.200v, %d) returned %v, %v", list, n, counts, ok)
	}
	if winner := impl.PairWinner(list, n); winner != -1 {
		t.Fatalf("PairWinner(%.200v, %d) returned %d", list, n, winner)
	}
	if top := impl.PairTop(list, n); len(top) != 0 {
		t.Fatalf("PairTop(%.200v, %d) returned %v", list, n, top)
	}
	if paths, ok := impl.PairPaths(list, n); ok || len(paths) != 0 {
		t.Fatalf("PairPaths(%.200v, %d) returned %v, %v", list, n, paths, ok)
	}
	if best := impl.PairBest(list, n); len(best) != 0 {
		t.Fatalf("PairBest(%.200v, %d) returned %v", list, n, best)
	}
}

// pilesOfSteps returns piles of ballots that name all n candidates: each step has so many ballots more than half, and who has no step is preferred by half of all.
func pilesOfSteps(n int, steps ...pairStep) []impl.Pile {
	texts := []string{}
	for _, s := range steps {
		rest := slices.DeleteFunc(allOf(n), func(c int) bool { return c == s.from || c == s.to })
		// All others are one way round on half of the ballots, and the other way on half.
		forth := lettersOf([]int{s.from, s.to}) + lettersOf(rest)
		slices.Reverse(rest)
		back := lettersOf(rest) + lettersOf([]int{s.from, s.to})
		texts = append(texts, slices.Repeat([]string{forth, back}, s.many)...)
	}
	return piled(texts)
}

// pilesOfAllSteps returns piles in which each two of at most four candidates are one way round, or the other, or even.
func pilesOfAllSteps(n int) [][]impl.Pile {
	all := [][]pairStep{{}}
	for x := range n {
		for y := range x {
			for _, steps := range all {
				// Some steps are as strong as others.
				many := 1 + (3*x+y+len(all)%5)%4
				all = append(all, append(slices.Clone(steps), pairStep{x, y, many}), append(slices.Clone(steps), pairStep{y, x, 1 + len(all)%3}))
			}
		}
	}
	lists := [][]impl.Pile{}
	for _, steps := range all {
		lists = append(lists, pilesOfSteps(n, steps...))
	}
	return lists
}

// pilesOfSomeSteps returns piles in which five candidates are in a circle, and one of them has a further step, or breaks it.
func pilesOfSomeSteps() [][]impl.Pile {
	lists := [][]impl.Pile{}
	for i, order := range someOrders(5) {
		for k := range 6 {
			steps := []pairStep{}
			for j, x := range order {
				steps = append(steps, pairStep{x, order[(j+1)%5], 1 + (i+j*k)%5})
			}
			far := pairStep{order[0], order[2+k%2], 1 + (i+k)%4}
			lists = append(lists, pilesOfSteps(5, append(steps, far)...), pilesOfSteps(5, append(slices.Clone(steps[1:]), far)...), pilesOfSteps(5, append(slices.Clone(steps[:k%5]), steps[k%5+1:]...)...))
		}
	}
	return lists
}

// pilesOfCircles returns piles in which each of some candidates is first, and all others follow in a circle; whoever is in no circle is behind them, ahead of them, or not named.
func pilesOfCircles(n int) [][]impl.Pile {
	lists := [][]impl.Pile{}
	for i, order := range someOrders(n) {
		for size := 3; size <= n; size++ {
			round, rest := lettersOf(order[:size]), lettersOf(order[size:])
			behind, ahead, alone := []impl.Pile{}, []impl.Pile{}, []impl.Pile{}
			for k := range size {
				text, many := round[k:]+round[:k], 1+(i+k*(i+size))%7
				behind = append(behind, impl.Pile{Text: text + rest, Many: many})
				ahead = append(ahead, impl.Pile{Text: rest + text, Many: many + 90})
				alone = append(alone, impl.Pile{Text: text[:2], Many: many})
			}
			for _, list := range [][]impl.Pile{behind, ahead, alone} {
				slices.SortFunc(list, func(p impl.Pile, q impl.Pile) int { return strings.Compare(p.Text, q.Text) })
				lists = append(lists, list)
			}
		}
	}
	return lists
}

// eachPairing calls a check with many piles for all numbers of candidates.
func eachPairing(check func(list []impl.Pile, n int)) {
	eachFit(check)
	for n := 1; n <= 5; n++ {
		lists := append(pilesOfRunoffs(n), pilesOfCircles(n)...)
		if n < 5 {
			lists = append(lists, pilesOfAllSteps(n)...)
		} else {
			lists = append(lists, pilesOfSomeSteps()...)
		}
		for _, list := range lists {
			check(list, n)
		}
	}
}

// textsTogether returns the texts of all piles, one behind the other.
func textsTogether(list []impl.Pile) string {
	all := ""
	for _, p := range list {
		all += p.Text
	}
	return all
}

// pairingExample is what was found by hand for piles.
type pairingExample struct {
	list []impl.Pile
	n    int
	want pairing
}

// checkPairings checks examples with all functions of pairs.
func checkPairings(t *testing.T, examples []pairingExample) {
	t.Helper()
	for _, e := range examples {
		checkPairing(t, e.list, e.n, e.want)
		// What is due is right, too.
		mustCompare(t, e.list, e.n)
	}
}

func TestPairExamples(t *testing.T) {
	checkPairings(t, []pairingExample{
		// One candidate beats all others.
		{piles([]string{"ab", "b"}, 3, 2), 2, pairing{[][]int{{0, 3}, {2, 0}}, 0, []int{0}, [][]int{{0, 3}, {0, 0}}, []int{0}}},
		{piles([]string{"a", "ba"}, 1, 99), 2, pairing{[][]int{{0, 1}, {99, 0}}, 1, []int{1}, [][]int{{0, 0}, {99, 0}}, []int{1}}},
		{piles([]string{"acb", "bc", "c"}, 4, 3, 2), 3, pairing{[][]int{{0, 4, 4}, {3, 0, 3}, {5, 6, 0}}, 2, []int{2}, [][]int{{0, 4, 0}, {0, 0, 0}, {5, 6, 0}}, []int{2}}},
		{piles([]string{"abcd", "dcab"}, 3, 2), 4, pairing{[][]int{{0, 5, 3, 3}, {0, 0, 3, 3}, {2, 2, 0, 3}, {2, 2, 2, 0}}, 0, []int{0}, [][]int{{0, 5, 3, 3}, {0, 0, 3, 3}, {0, 0, 0, 3}, {0, 0, 0, 0}}, []int{0}}},
		// All are in a circle.
		{piles([]string{"abc", "bca", "cab"}, 3, 2, 2), 3, pairing{[][]int{{0, 5, 3}, {2, 0, 5}, {4, 2, 0}}, -1, []int{0, 1, 2}, [][]int{{0, 5, 5}, {4, 0, 5}, {4, 4, 0}}, []int{0}}},
		{piles([]string{"abc", "bca", "cab"}, 1), 3, pairing{[][]int{{0, 2, 1}, {1, 0, 2}, {2, 1, 0}}, -1, []int{0, 1, 2}, [][]int{{0, 2, 2}, {2, 0, 2}, {2, 2, 0}}, []int{0, 1, 2}}},
		{piles([]string{"ab", "bc", "ca"}, 2, 2, 3), 3, pairing{[][]int{{0, 5, 2}, {2, 0, 4}, {5, 3, 0}}, -1, []int{0, 1, 2}, [][]int{{0, 5, 4}, {4, 0, 4}, {5, 5, 0}}, []int{2}}},
		// The weakest step of the circle has the least ballots, but is ahead by more than another one.
		{piles([]string{"a", "ab", "b", "ca"}, 1, 1, 4, 4), 3, pairing{[][]int{{0, 6, 2}, {4, 0, 5}, {4, 4, 0}}, -1, []int{0, 1, 2}, [][]int{{0, 6, 5}, {4, 0, 5}, {4, 4, 0}}, []int{0}}},
		// Three are in a circle, and each one of them beats the last one.
		{piles([]string{"abcd", "bcad", "cabd"}, 3, 2, 2), 4, pairing{[][]int{{0, 5, 3, 7}, {2, 0, 5, 7}, {4, 2, 0, 7}, {0, 0, 0, 0}}, -1, []int{0, 1, 2}, [][]int{{0, 5, 5, 7}, {4, 0, 5, 7}, {4, 4, 0, 7}, {0, 0, 0, 0}}, []int{0}}},
		// Three are in a circle, and the first one beats each one of them.
		{piles([]string{"abcd", "acdb", "adbc"}, 1), 4, pairing{[][]int{{0, 3, 3, 3}, {0, 0, 2, 1}, {0, 1, 0, 2}, {0, 2, 1, 0}}, 0, []int{0}, [][]int{{0, 3, 3, 3}, {0, 0, 2, 2}, {0, 2, 0, 2}, {0, 2, 2, 0}}, []int{0}}},
		// Steps lead from b to d, from d to a, from a to c and from c to b: the strongest paths go all round.
		{piles([]string{"acbd", "bdac", "cabd", "cbad", "cbda", "dabc", "dacb", "dbac"}, 3, 3, 3, 1, 1, 1, 1, 3), 4, pairing{[][]int{{0, 8, 11, 7}, {8, 0, 7, 11}, {5, 9, 0, 8}, {9, 5, 8, 0}}, -1, []int{0, 1, 2, 3}, [][]int{{0, 9, 11, 9}, {9, 0, 9, 11}, {9, 9, 0, 9}, {9, 9, 9, 0}}, []int{0, 1}}},
		// Five candidates: each one has paths to all others.
		{piles([]string{"acbed", "adecb", "bedac", "cabed", "caebd", "cbade", "dceba", "ebadc"}, 5, 5, 8, 3, 7, 2, 7, 8), 5, pairing{
			[][]int{{0, 20, 26, 30, 22}, {25, 0, 16, 33, 18}, {19, 29, 0, 17, 24}, {15, 12, 28, 0, 14}, {23, 27, 21, 31, 0}}, -1, []int{0, 1, 2, 3, 4},
			[][]int{{0, 28, 28, 30, 24}, {25, 0, 28, 33, 24}, {25, 29, 0, 29, 24}, {25, 28, 28, 0, 24}, {25, 28, 28, 31, 0}}, []int{4},
		}},
	})
}

func TestPairExamplesOfEvenPairs(t *testing.T) {
	checkPairings(t, []pairingExample{
		// Neither beats the other one.
		{piles([]string{"a", "b"}, 3), 2, pairing{[][]int{{0, 3}, {3, 0}}, -1, []int{0, 1}, zeros(2), []int{0, 1}}},
		{piles([]string{"ab", "ba"}, 99), 2, pairing{[][]int{{0, 99}, {99, 0}}, -1, []int{0, 1}, zeros(2), []int{0, 1}}},
		{piles([]string{"a", "b", "c"}, 5), 3, pairing{[][]int{{0, 5, 5}, {5, 0, 5}, {5, 5, 0}}, -1, []int{0, 1, 2}, zeros(3), []int{0, 1, 2}}},
		// Two are even, and beat the third one.
		{piles([]string{"a", "b", "c"}, 2, 2, 1), 3, pairing{[][]int{{0, 2, 2}, {2, 0, 2}, {1, 1, 0}}, -1, []int{0, 1}, [][]int{{0, 0, 2}, {0, 0, 2}, {0, 0, 0}}, []int{0, 1}}},
		// One beats a second one, and is even with the third one, who is even with the second one: all are top, but not best.
		{piles([]string{"abc", "cab"}, 2), 3, pairing{[][]int{{0, 4, 2}, {0, 0, 2}, {2, 2, 0}}, -1, []int{0, 1, 2}, [][]int{{0, 4, 0}, {0, 0, 0}, {0, 0, 0}}, []int{0, 2}}},
		{piles([]string{"bca", "cab"}, 2), 3, pairing{[][]int{{0, 2, 0}, {2, 0, 2}, {4, 2, 0}}, -1, []int{0, 1, 2}, [][]int{{0, 0, 0}, {0, 0, 0}, {4, 0, 0}}, []int{1, 2}}},
		// One beats two who are even, or is beaten by both.
		{piles([]string{"cab", "cba"}, 2), 3, pairing{[][]int{{0, 2, 0}, {2, 0, 0}, {4, 4, 0}}, 2, []int{2}, [][]int{{0, 0, 0}, {0, 0, 0}, {4, 4, 0}}, []int{2}}},
		{piles([]string{"abc", "bac"}, 2), 3, pairing{[][]int{{0, 2, 4}, {2, 0, 4}, {0, 0, 0}}, -1, []int{0, 1}, [][]int{{0, 0, 4}, {0, 0, 4}, {0, 0, 0}}, []int{0, 1}}},
		// Who is even with one who beats all others is top, too.
		{piles([]string{"abc", "dabc"}, 2), 4, pairing{[][]int{{0, 4, 4, 2}, {0, 0, 4, 2}, {0, 0, 0, 2}, {2, 2, 2, 0}}, -1, []int{0, 1, 2, 3}, [][]int{{0, 4, 4, 0}, {0, 0, 4, 0}, {0, 0, 0, 0}, {0, 0, 0, 0}}, []int{0, 3}}},
	})
}

func TestPairExamplesOfPathsOfSeveralSteps(t *testing.T) {
	checkPairings(t, []pairingExample{
		// The weakest step counts, wherever it is on the path.
		{pilesOfSteps(4, pairStep{0, 1, 3}, pairStep{1, 2, 1}, pairStep{2, 3, 2}), 4, pairing{[][]int{{0, 9, 6, 6}, {3, 0, 7, 6}, {6, 5, 0, 8}, {6, 6, 4, 0}}, -1, []int{0, 1, 2, 3}, [][]int{{0, 9, 7, 7}, {0, 0, 7, 7}, {0, 0, 0, 8}, {0, 0, 0, 0}}, []int{0}}},
		{pilesOfSteps(4, pairStep{3, 1, 1}, pairStep{1, 2, 3}, pairStep{2, 0, 2}), 4, pairing{[][]int{{0, 6, 4, 6}, {6, 0, 9, 5}, {8, 3, 0, 6}, {6, 7, 6, 0}}, -1, []int{0, 1, 2, 3}, [][]int{{0, 0, 0, 0}, {8, 0, 9, 0}, {8, 0, 0, 0}, {7, 7, 7, 0}}, []int{3}}},
		{pilesOfSteps(5, pairStep{4, 2, 5}, pairStep{2, 0, 4}, pairStep{0, 3, 3}, pairStep{3, 1, 2}), 5, pairing{[][]int{{0, 14, 10, 17, 14}, {14, 0, 14, 12, 14}, {18, 14, 0, 14, 9}, {11, 16, 14, 0, 14}, {14, 14, 19, 14, 0}}, -1, []int{0, 1, 2, 3, 4}, [][]int{{0, 16, 0, 17, 0}, {0, 0, 0, 0, 0}, {18, 16, 0, 17, 0}, {0, 16, 0, 0, 0}, {18, 16, 19, 17, 0}}, []int{4}}},
		// There is a step from a to c, but the path through b is stronger, or as strong, or weaker.
		{pilesOfSteps(3, pairStep{0, 1, 2}, pairStep{1, 2, 2}, pairStep{0, 2, 1}), 3, pairing{[][]int{{0, 7, 6}, {3, 0, 7}, {4, 3, 0}}, 0, []int{0}, [][]int{{0, 7, 7}, {0, 0, 7}, {0, 0, 0}}, []int{0}}},
		{pilesOfSteps(3, pairStep{0, 1, 1}, pairStep{1, 2, 3}, pairStep{0, 2, 1}), 3, pairing{[][]int{{0, 6, 6}, {4, 0, 8}, {4, 2, 0}}, 0, []int{0}, [][]int{{0, 6, 6}, {0, 0, 8}, {0, 0, 0}}, []int{0}}},
		{pilesOfSteps(3, pairStep{0, 1, 1}, pairStep{1, 2, 1}, pairStep{0, 2, 3}), 3, pairing{[][]int{{0, 6, 8}, {4, 0, 6}, {2, 4, 0}}, 0, []int{0}, [][]int{{0, 6, 8}, {0, 0, 6}, {0, 0, 0}}, []int{0}}},
		// Two paths from a to d are both the strongest one.
		{pilesOfSteps(4, pairStep{0, 1, 2}, pairStep{1, 3, 2}, pairStep{0, 2, 2}, pairStep{2, 3, 2}), 4, pairing{[][]int{{0, 10, 10, 8}, {6, 0, 8, 10}, {6, 8, 0, 10}, {8, 6, 6, 0}}, -1, []int{0, 1, 2, 3}, [][]int{{0, 10, 10, 10}, {0, 0, 0, 10}, {0, 0, 0, 10}, {0, 0, 0, 0}}, []int{0}}},
	})
}

func TestPairExamplesOfFewNames(t *testing.T) {
	for n := 1; n <= 5; n++ {
		nobody := pairing{zeros(n), -1, allOf(n), zeros(n), allOf(n)}
		if n == 1 {
			nobody.winner = 0
		}
		checkPairings(t, []pairingExample{{nil, n, nobody}, {[]impl.Pile{}, n, nobody}, {piles([]string{""}, 1), n, nobody}, {piles([]string{""}, 99), n, nobody}})
	}
	alone := pairing{zeros(1), 0, []int{0}, zeros(1), []int{0}}
	checkPairings(t, []pairingExample{
		// One candidate alone beats each other one.
		{piles([]string{"a"}, 1), 1, alone}, {piles([]string{"a"}, 99), 1, alone}, {piles([]string{"", "a"}, 99, 1), 1, alone},
		// All others are not named: they are even.
		{piles([]string{"b"}, 7), 3, pairing{[][]int{{0, 0, 0}, {7, 0, 7}, {0, 0, 0}}, 1, []int{1}, [][]int{{0, 0, 0}, {7, 0, 7}, {0, 0, 0}}, []int{1}}},
		{piles([]string{"", "c"}, 99, 1), 3, pairing{[][]int{{0, 0, 0}, {0, 0, 0}, {1, 1, 0}}, 2, []int{2}, [][]int{{0, 0, 0}, {0, 0, 0}, {1, 1, 0}}, []int{2}}},
		{piles([]string{"", "a", "b"}, 50, 1, 1), 3, pairing{[][]int{{0, 1, 1}, {1, 0, 1}, {0, 0, 0}}, -1, []int{0, 1}, [][]int{{0, 0, 1}, {0, 0, 1}, {0, 0, 0}}, []int{0, 1}}},
		{piles([]string{"ec"}, 2), 5, pairing{[][]int{{0, 0, 0, 0, 0}, {0, 0, 0, 0, 0}, {2, 2, 0, 2, 0}, {0, 0, 0, 0, 0}, {2, 2, 2, 2, 0}}, 4, []int{4}, [][]int{{0, 0, 0, 0, 0}, {0, 0, 0, 0, 0}, {2, 2, 0, 2, 0}, {0, 0, 0, 0, 0}, {2, 2, 2, 2, 0}}, []int{4}}},
	})
}

func TestPairsOfTheMostBallots(t *testing.T) {
	// There are as many piles as there can be, all of them as large as they can be.
	texts := slices.DeleteFunc(ballotTexts(), func(text string) bool { return !strings.HasPrefix(text, "ed") })[:12]
	if got := mustCompare(t, piles(texts, 99), 5); got.counts[4][0] != 1188 || got.counts[3][0] != 1188 || got.counts[4][3] != 1188 || got.paths[4][0] != 1188 || got.winner != 4 {
		t.Errorf("the pairs of 1188 ballots are %v", got)
	}
	texts = slices.DeleteFunc(ballotTexts(), func(text string) bool { return len(text) != 5 || text[0] == 'a' || text[4] == 'a' })
	for start := 0; start+12 <= len(texts); start++ {
		list := piles(texts[start:start+12], 99)
		got := mustCompare(t, list, 5)
		for x := range 5 {
			for y := range x {
				if got.counts[x][y]+got.counts[y][x] != 1188 {
					t.Fatalf("the pairs of %v are %v", list, got)
				}
			}
		}
		checkNoPairs(t, append(slices.Clone(list), impl.Pile{Text: "edcba", Many: 1}), 5)
		list[start%12].Many++
		checkNoPairs(t, list, 5)
	}
	// The largest circle of all.
	mustCompare(t, piles([]string{"abcde", "bcdea", "cdeab", "deabc", "eabcd"}, 99), 5)
	mustCompare(t, piles([]string{"abcde", "bcdea", "cdeab", "deabc", "eabcd"}, 99, 98, 97), 5)
}

func TestPairCountsOfSinglePiles(t *testing.T) {
	for _, text := range append(ballotTexts(), badTexts...) {
		for _, many := range []int{1, 99, 0, 100} {
			list := piles([]string{text}, many)
			for n := range 7 {
				if doFit(list, n) {
					mustCompare(t, list, n)
				} else {
					checkNoPairs(t, list, n)
				}
			}
		}
	}
}

func TestPairsOfInvalidPiles(t *testing.T) {
	for _, list := range invalidPiles() {
		for n := range 8 {
			checkNoPairs(t, list, n)
		}
		checkNoPairs(t, list, -1)
	}
}

func TestPairsOfNoNumberOfCandidates(t *testing.T) {
	for _, list := range append(manyPiles(), nil, []impl.Pile{}, piles([]string{""}, 1), piles([]string{"a"}, 99)) {
		for _, n := range append([]int{0}, oddNumbers...) {
			checkNoPairs(t, list, n)
		}
	}
}

func TestPairsOfTooFewCandidates(t *testing.T) {
	for n := 1; n <= 4; n++ {
		for _, text := range ballotTexts() {
			for _, others := range [][]string{{}, {""}, {"", "a"}} {
				list := piles(append(slices.Clone(others), text), 2)
				if arePiles(list) && !doFit(list, n) {
					checkNoPairs(t, list, n)
				}
			}
		}
	}
	// One ballot of one pile is enough, wherever it is on this ballot.
	for _, text := range []string{"cad", "cda", "d"} {
		list := piles([]string{"", "a", "ab", "ac", "acb", "b", "ba", "bc", "bca", "c", "ca", text}, 99, 1)
		mustCompare(t, list, 4)
		mustCompare(t, list, 5)
		checkNoPairs(t, list, 3)
	}
}

func TestPairsOfManyPiles(t *testing.T) {
	winners, tops, bests, fewer, refused := map[int]int{}, map[[2]int]int{}, map[[2]int]int{}, 0, 0
	eachPairing(func(list []impl.Pile, n int) {
		got := mustCompare(t, list, n)
		winners[got.winner]++
		tops[[2]int{n, len(got.top)}]++
		bests[[2]int{n, len(got.best)}]++
		if len(got.top) > len(got.best) {
			fewer++
		}
		if strings.Contains(textsTogether(list), letters[n-1:n]) {
			checkNoPairs(t, list, n-1)
			refused++
		}
	})
	for winner := -1; winner < 5; winner++ {
		if winners[winner] < 100 {
			t.Errorf("%d wins only %d times", winner, winners[winner])
		}
	}
	for n := 1; n <= 5; n++ {
		for size := 1; size <= n; size++ {
			if tops[[2]int{n, size}] < 10 || bests[[2]int{n, size}] < 10 {
				t.Errorf("of %d candidates, %d are top %d times, and best %d times", n, size, tops[[2]int{n, size}], bests[[2]int{n, size}])
			}
		}
	}
	if fewer < 100 || refused < 1000 {
		t.Errorf("fewer are best than top %d times, and %d piles do not fit one candidate less", fewer, refused)
	}
}

func TestPairsInCircles(t *testing.T) {
	for n := 3; n <= 5; n++ {
		for _, order := range ordersOf(n) {
			for size := 3; size <= n; size++ {
				for many := 1; many <= 99; many += 49 {
					checkCircle(t, order, size, many)
				}
			}
		}
	}
}

// checkCircle checks ballots on which the first ones of an order are in a circle, and all others behind them, or ahead.
func checkCircle(t *testing.T, order []int, size int, many int) {
	t.Helper()
	round, rest := order[:size], order[size:]
	behind, ahead := []string{}, []string{}
	for k := range round {
		text := lettersOf(append(slices.Clone(round[k:]), round[:k]...))
		behind, ahead = append(behind, text+lettersOf(rest)), append(ahead, lettersOf(rest)+text)
	}
	slices.Sort(behind)
	slices.Sort(ahead)
	// Nobody beats all others of the circle, and nobody else beats one of it.
	got := mustCompare(t, piles(behind, many), len(order))
	if circle := slices.Sorted(slices.Values(round)); got.winner != -1 || !slices.Equal(got.top, circle) || !slices.Equal(got.best, circle) {
		t.Fatalf("the pairs of %v are %v", piles(behind, many), got)
	}
	for i, x := range round {
		// Each one is ahead of the next one on all ballots but those that begin with the next one.
		if next := round[(i+1)%size]; got.counts[x][next] != (size-1)*many || got.counts[next][x] != many || got.paths[next][x] != (size-1)*many {
			t.Fatalf("the pairs of %v are %v", piles(behind, many), got)
		}
	}
	if len(rest) == 0 {
		return
	}
	// There is no path from the circle to the one who beats all others.
	got = mustCompare(t, piles(ahead, many), len(order))
	if first := rest[0]; got.winner != first || !slices.Equal(got.top, rest[:1]) || !slices.Equal(got.best, rest[:1]) || got.paths[round[0]][first] != 0 || got.paths[first][round[0]] != size*many {
		t.Fatalf("the pairs of %v are %v", piles(ahead, many), got)
	}
}

func TestPromise53BothNumbersTogether(t *testing.T) {
	less, equal := 0, 0
	eachPairing(func(list []impl.Pile, n int) {
		got, total := pairsOf(t, list, n), impl.PilesTotal(list)
		for x := range n {
			if got.counts[x][x] != 0 {
				t.Fatalf("PairCounts(%v, %d) returned %v: %d is preferred to the same one", list, n, got.counts, x)
			}
			for y := range x {
				one, other := got.counts[x][y], got.counts[y][x]
				switch {
				case one < 0 || other < 0 || one+other > total:
					t.Fatalf("PairCounts(%v, %d) returned %v, of %d ballots", list, n, got.counts, total)
				case one+other < total:
					less++
				default:
					equal++
				}
			}
		}
	})
	if less < 1000 || equal < 1000 {
		t.Errorf("%d sums are less than the total, and %d equal", less, equal)
	}
}

func TestPromise53BallotsThatNameOneOfBoth(t *testing.T) {
	eachPairing(func(list []impl.Pile, n int) {
		got := pairsOf(t, list, n)
		for x := range n {
			for y := range x {
				named := 0
				for _, p := range list {
					if strings.ContainsAny(p.Text, letters[x:x+1]+letters[y:y+1]) {
						named += p.Many
					}
				}
				if got.counts[x][y]+got.counts[y][x] != named {
					t.Fatalf("PairCounts(%v, %d) returned %v, but %d ballots name %d or %d", list, n, got.counts, named, x, y)
				}
			}
		}
	})
}

// checkPairParts checks that the numbers of all piles are those of both parts together.
func checkPairParts(t *testing.T, list []impl.Pile, first []impl.Pile, other []impl.Pile, n int) {
	t.Helper()
	all, one, rest := pairsOf(t, list, n), pairsOf(t, first, n), pairsOf(t, other, n)
	sums := table(n, func(x int, y int) int { return one.counts[x][y] + rest.counts[x][y] })
	if !sameTable(all.counts, sums) {
		t.Fatalf("PairCounts(%v, %d) returned %v, but %v for %v and %v", list, n, all.counts, sums, first, other)
	}
}

func TestPromise54CountsOfBothParts(t *testing.T) {
	pairings := 0
	eachPairing(func(list []impl.Pile, n int) {
		// All would take long, and a third of them still has all numbers of piles.
		if pairings++; pairings%3 != 0 {
			return
		}
		for k := range len(list) + 1 {
			checkPairParts(t, list, list[:k], list[k:], n)
		}
		even, odd := inTurn(list)
		checkPairParts(t, list, even, odd, n)
	})
}

func TestPromise54UpToAFullPile(t *testing.T) {
	list := piles([]string{"ab", "bca", "c"}, 1)
	for many := 2; many <= 99; many++ {
		before := pairsOf(t, list, 3)
		list, _ = impl.PilesAdd(list, "bca", 1)
		after := pairsOf(t, list, 3)
		for x := range 3 {
			for y := range 3 {
				want := before.counts[x][y]
				if names("bca", x, y) {
					want++
				}
				if after.counts[x][y] != want || list[1].Many != many {
					t.Fatalf("PairCounts(%v, 3) returned %v, after %v", list, after.counts, before.counts)
				}
			}
		}
	}
}

func TestPromise55TheWinnerBeatsEachOtherOne(t *testing.T) {
	won, none, plurality := 0, 0, 0
	eachPairing(func(list []impl.Pile, n int) {
		got := pairsOf(t, list, n)
		if got.winner == -1 {
			none++
			return
		}
		won++
		for y := range n {
			if y != got.winner && got.counts[got.winner][y] <= got.counts[y][got.winner] {
				t.Fatalf("%d wins %v of %d candidates, but does not beat %d", got.winner, list, n, y)
			}
		}
		if alone := []int{got.winner}; !slices.Equal(got.top, alone) || !slices.Equal(got.best, alone) {
			t.Fatalf("%d wins %v of %d candidates, but %v are top and %v best", got.winner, list, n, got.top, got.best)
		}
		if impl.PluralityWinner(list, allOf(n)) != got.winner {
			plurality++
		}
	})
	if won < 1000 || none < 1000 || plurality < 100 {
		t.Errorf("%d times somebody wins, and %d times nobody; %d winners are not those of plurality", won, none, plurality)
	}
}

func TestPromise55OfOneCandidateAlone(t *testing.T) {
	eachPairing(func(list []impl.Pile, n int) {
		if n != 1 {
			return
		}
		if got := pairsOf(t, list, 1); got.winner != 0 || !slices.Equal(got.top, []int{0}) || !slices.Equal(got.best, []int{0}) {
			t.Fatalf("the pairs of %v for one candidate are %v", list, got)
		}
	})
}

func TestPromise56NobodyBeatsEachOtherOne(t *testing.T) {
	beaten, even := 0, 0
	eachPairing(func(list []impl.Pile, n int) {
		got := pairsOf(t, list, n)
		if got.winner != -1 {
			return
		}
		for x := range n {
			as, more := false, false
			for y := range n {
				as = as || y != x && got.counts[y][x] >= got.counts[x][y]
				more = more || got.counts[y][x] > got.counts[x][y]
			}
			switch {
			case !as:
				t.Fatalf("nobody wins %v of %d candidates, but %d beats all others", list, n, x)
			case more:
				beaten++
			default:
				even++
			}
		}
	})
	if beaten < 1000 || even < 1000 {
		t.Errorf("%d are beaten by others, and %d are even with others", beaten, even)
	}
}

func TestPromise57TheTopBeatsAllOthers(t *testing.T) {
	pairs := 0
	eachPairing(func(list []impl.Pile, n int) {
		got := pairsOf(t, list, n)
		if len(got.top) == 0 {
			t.Fatalf("PairTop(%v, %d) is empty", list, n)
		}
		for i, x := range got.top {
			if i > 0 && x <= got.top[i-1] {
				t.Fatalf("PairTop(%v, %d) returned %v", list, n, got.top)
			}
			for y := range n {
				if slices.Contains(got.top, y) {
					continue
				}
				pairs++
				if got.counts[x][y] <= got.counts[y][x] {
					t.Fatalf("PairTop(%v, %d) returned %v, but %d does not beat %d", list, n, got.top, x, y)
				}
			}
		}
	})
	if pairs < 1000 {
		t.Errorf("only %d pairs are of one of the top and another one", pairs)
	}
}

func TestPromise57NoLesserSet(t *testing.T) {
	sets := 0
	eachPairing(func(list []impl.Pile, n int) {
		got := pairsOf(t, list, n)
		for _, some := range masksOf(n) {
			in := slices.DeleteFunc(allOf(n), func(c int) bool { return !some[c] })
			if len(in) == 0 || len(in) >= len(got.top) {
				continue
			}
			sets++
			beats := true
			for _, x := range in {
				for y := range n {
					beats = beats && (some[y] || got.counts[x][y] > got.counts[y][x])
				}
			}
			if beats {
				t.Fatalf("PairTop(%v, %d) returned %v, but each one of %v beats all others", list, n, got.top, in)
			}
		}
	})
	if sets < 1000 {
		t.Errorf("only %d sets are less than the top", sets)
	}
}

func TestPromise58EachOfSeveralAtTheTopIsBeatenOrEven(t *testing.T) {
	beaten, even := 0, 0
	eachPairing(func(list []impl.Pile, n int) {
		got := pairsOf(t, list, n)
		if len(got.top) < 2 {
			return
		}
		for _, x := range got.top {
			least := 1
			for _, y := range got.top {
				if y != x {
					least = min(least, got.counts[x][y]-got.counts[y][x])
				}
			}
			switch {
			case least > 0:
				t.Fatalf("PairTop(%v, %d) returned %v, but %d beats all others", list, n, got.top, x)
			case least == 0:
				even++
			default:
				beaten++
			}
		}
	})
	if beaten < 1000 || even < 1000 {
		t.Errorf("%d of the top are beaten by another one, and %d even with it", beaten, even)
	}
}

func TestPromise59NoPathOrStepIsStronger(t *testing.T) {
	through, steps := 0, 0
	eachPairing(func(list []impl.Pile, n int) {
		got := pairsOf(t, list, n)
		for x := range n {
			if got.paths[x][x] != 0 {
				t.Fatalf("PairPaths(%v, %d) returned %v: there is a path from %d to the same one", list, n, got.paths, x)
			}
			for y := range n {
				if x == y {
					continue
				}
				if step := got.counts[x][y]; step > got.counts[y][x] {
					steps++
					if step > got.paths[x][y] {
						t.Fatalf("PairPaths(%v, %d) returned %v, but a step from %d to %d has %d", list, n, got.paths, x, y, step)
					}
				}
				for z := range n {
					strength := min(got.paths[x][z], got.paths[z][y])
					if z == x || z == y || strength == 0 {
						continue
					}
					through++
					if strength > got.paths[x][y] {
						t.Fatalf("PairPaths(%v, %d) returned %v, but a path from %d through %d to %d has %d", list, n, got.paths, x, z, y, strength)
					}
				}
			}
		}
	})
	if through < 1000 || steps < 1000 {
		t.Errorf("there were only %d paths through a third one, and %d steps", through, steps)
	}
}

func TestPromise60EachPathHasAFirstStep(t *testing.T) {
	single, first, none := 0, 0, 0
	eachPairing(func(list []impl.Pile, n int) {
		got := pairsOf(t, list, n)
		for x := range n {
			for y := range n {
				strength := got.paths[x][y]
				step := func(z int) bool {
					return got.counts[x][z] > got.counts[z][x] && got.counts[x][z] >= strength
				}
				third := func(z int) bool {
					return z != x && z != y && step(z) && got.paths[z][y] >= strength
				}
				switch {
				case strength == 0:
					none++
				case x != y && step(y) && got.counts[x][y] == strength:
					single++
				case x != y && slices.ContainsFunc(allOf(n), third):
					first++
				default:
					t.Fatalf("PairPaths(%v, %d) returned %v, but no path from %d to %d has %d", list, n, got.paths, x, y, strength)
				}
			}
		}
	})
	if single < 1000 || first < 1000 || none < 1000 {
		t.Errorf("%d paths are a single step, %d have several steps, and %d are none", single, first, none)
	}
}

func TestPromise61TheBestAreOfTheTop(t *testing.T) {
	one, several, fewer := 0, 0, 0
	eachPairing(func(list []impl.Pile, n int) {
		got := pairsOf(t, list, n)
		if len(got.best) == 0 {
			t.Fatalf("PairBest(%v, %d) is empty", list, n)
		}
		for _, x := range got.best {
			if !slices.Contains(got.top, x) {
				t.Fatalf("PairBest(%v, %d) returned %v, but %v are top", list, n, got.best, got.top)
			}
		}
		if len(got.best) == 1 {
			one++
		} else {
			several++
		}
		if len(got.best) < len(got.top) {
			fewer++
		}
	})
	if one < 1000 || several < 1000 || fewer < 1000 {
		t.Errorf("%d times one is best, %d times several, and %d times fewer than are top", one, several, fewer)
	}
}

func TestPromise62NoPathBackIsStronger(t *testing.T) {
	best, other := 0, 0
	eachPairing(func(list []impl.Pile, n int) {
		got := pairsOf(t, list, n)
		want := []int{}
		for x := range n {
			stronger := slices.ContainsFunc(allOf(n), func(y int) bool { return got.paths[y][x] > got.paths[x][y] })
			if stronger {
				other++
				continue
			}
			best++
			want = append(want, x)
		}
		if !slices.Equal(got.best, want) {
			t.Fatalf("PairBest(%v, %d) returned %v, not %v: the paths are %v", list, n, got.best, want, got.paths)
		}
	})
	if best < 1000 || other < 1000 {
		t.Errorf("%d candidates are best, and %d are not", best, other)
	}
}

// turnedPairing returns a pairing in which two candidates are exchanged.
func turnedPairing(p pairing, x int, y int) pairing {
	turned := func(rows [][]int) [][]int {
		return table(len(rows), func(i int, k int) int { return rows[turnedNumber(i, x, y)][turnedNumber(k, x, y)] })
	}
	some := func(list []int) []int {
		return slices.Sorted(slices.Values(turnedNumbers(list, x, y)))
	}
	return pairing{turned(p.counts), turnedNumber(p.winner, x, y), some(p.top), turned(p.paths), some(p.best)}
}

func TestPromise63TheWinnerExchanged(t *testing.T) {
	changed, none, pairings := 0, 0, 0
	eachPairing(func(list []impl.Pile, n int) {
		// All would take long, and a third of them still has all numbers of candidates.
		if pairings++; pairings%3 != 0 {
			return
		}
		got := pairsOf(t, list, n)
		for x := range n {
			for y := range x + 1 {
				turned, ok := impl.PilesTurn(list, x, y)
				if !ok {
					t.Fatalf("PilesTurn(%v, %d, %d) failed", list, x, y)
				}
				if winner := impl.PairWinner(turned, n); winner != turnedNumber(got.winner, x, y) {
					t.Fatalf("%d wins %v of %d candidates, and with %d and %d exchanged %d", got.winner, list, n, x, y, winner)
				} else if winner == -1 {
					none++
				} else if winner != got.winner {
					changed++
				}
				checkPairing(t, turned, n, turnedPairing(got, x, y))
			}
		}
	})
	if changed < 1000 || none < 1000 {
		t.Errorf("%d winners have been exchanged, and %d times nobody wins", changed, none)
	}
}

func TestPromise63OneOfBothIsOutOfRange(t *testing.T) {
	// Candidates are exchanged with one whom n candidates do not have: the piles do not fit any more.
	list := piles([]string{"ab", "b", "ca"}, 3, 2, 4)
	for x := range 3 {
		turned, ok := impl.PilesTurn(list, x, 3)
		if !ok {
			t.Fatalf("PilesTurn(%v, %d, 3) failed", list, x)
		}
		checkNoPairs(t, turned, 3)
		checkPairing(t, turned, 4, turnedPairing(mustCompare(t, list, 4), x, 3))
	}
}

func TestPairArgumentsAreNotChanged(t *testing.T) {
	for _, list := range append(append(manyPiles(), invalidPiles()...), nil) {
		for n := range 7 {
			// What is in the spare capacity belongs to the caller, too.
			own := append(slices.Clone(list), sparePiles...)
			given := own[:len(list)]
			impl.PairCounts(given, n)
			impl.PairWinner(given, n)
			impl.PairTop(given, n)
			impl.PairPaths(given, n)
			impl.PairBest(given, n)
			if !slices.Equal(own, append(slices.Clone(list), sparePiles...)) {
				t.Fatalf("%.100v has become %.100v", list, own)
			}
		}
	}
}

// spoil writes over a list of numbers and all of its spare capacity.
func spoil(list []int) {
	for i := range list[:cap(list)] {
		list[:cap(list)][i] = -7
	}
}

func TestPairRowsShareNoMemory(t *testing.T) {
	eachPairing(func(list []impl.Pile, n int) {
		own := slices.Clone(list)
		first, second, want := pairsOf(t, own, n), pairsOf(t, own, n), mustCompare(t, list, n)
		for _, rows := range [][][]int{first.counts, first.paths} {
			kept := table(n, func(x int, y int) int { return rows[x][y] })
			for x := range rows {
				// All other rows stay as they are when one of them is changed.
				spoil(rows[x])
				if !sameTable(rows[x+1:], kept[x+1:]) {
					t.Fatalf("the rows of %v behind %d have become %v", list, x, rows)
				}
			}
			for x := range rows[:cap(rows)] {
				rows[:cap(rows)][x] = nil
			}
		}
		spoil(first.top)
		spoil(first.best)
		// Nothing reads the argument any more.
		for i := range own {
			own[i] = impl.Pile{Text: "?", Many: -7}
		}
		checkPairing(t, list, n, want)
		if !sameTable(second.counts, want.counts) || !sameTable(second.paths, want.paths) || !slices.Equal(second.top, want.top) || !slices.Equal(second.best, want.best) {
			t.Fatalf("the pairs of %v are %v, and have become %v", list, want, second)
		}
	})
}

func TestPairsAreTheSameAtTheSameTime(t *testing.T) {
	list := piles([]string{"", "ab", "ba", "bac", "c", "cab", "cda", "dc", "dea", "e", "ead", "edc"}, 9, 8, 7, 6, 5)
	want := mustCompare(t, list, 5)
	var callers sync.WaitGroup
	for range 8 {
		callers.Go(func() {
			for range 200 {
				counts, ok := impl.PairCounts(list, 5)
				paths, fine := impl.PairPaths(list, 5)
				if !ok || !fine || !sameTable(counts, want.counts) || !sameTable(paths, want.paths) {
					t.Errorf("the counts and paths are %v and %v, not %v and %v", counts, paths, want.counts, want.paths)
				}
				if impl.PairWinner(list, 5) != want.winner || !slices.Equal(impl.PairTop(list, 5), want.top) || !slices.Equal(impl.PairBest(list, 5), want.best) {
					t.Error("the winner, the top or the best ones have changed")
				}
			}
		})
	}
	callers.Wait()
}
