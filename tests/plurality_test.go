package tests

import (
	"runtime"
	"slices"
	"strings"
	"sync"
	"testing"
	"time"

	"loop.example/tallyaudit/impl"
)

// textsFor returns the texts of all ballots for n candidates, in ascending order.
func textsFor(n int) []string {
	texts := []string{}
	for _, b := range ballotsOf(n) {
		texts = append(texts, lettersOf(b))
	}
	slices.Sort(texts)
	return texts
}

// pilesFor returns piles of all numbers of piles that fit n candidates, many of them with equal counts.
func pilesFor(n int) [][]impl.Pile {
	texts := textsFor(n)
	lists := [][]impl.Pile{nil, {}}
	for length := 1; length <= min(12, len(texts)); length++ {
		for _, step := range []int{1, 3, 7, 13, 16, 27, 29} {
			for start := 0; start+step*(length-1) < len(texts); start += 1 + len(texts)/7 {
				some := []string{}
				for i := range length {
					some = append(some, texts[start+step*i])
				}
				lists = append(lists, piles(some, 1), piles(some, 2, 1, 1), piles(some, 99), piles(some, 1+(start+7*step)%98, 98, 3, 50, 1))
			}
		}
	}
	return lists
}

// pilesOfFirst returns piles of ballots that each name one of n candidates alone, with all small counts, and ballots that name nobody.
func pilesOfFirst(n int) [][]impl.Pile {
	lists := [][]impl.Pile{{}, {{Text: "", Many: 2}}}
	for c := range n {
		for _, list := range lists {
			for many := 1; many <= 3; many++ {
				lists = append(lists, append(slices.Clone(list), impl.Pile{Text: letters[c : c+1], Many: many}))
			}
		}
	}
	return lists
}

// someOrders returns orders of n candidates, in which each one comes first and last.
func someOrders(n int) [][]int {
	orders := [][]int{}
	for i, order := range ordersOf(n) {
		if n < 5 || i%9 == 0 {
			orders = append(orders, order)
		}
	}
	return orders
}

// doFit is the document's definition of piles that fit, in other words.
func doFit(list []impl.Pile, n int) bool {
	if n < 1 || n > 5 || !arePiles(list) {
		return false
	}
	for _, p := range list {
		if strings.Trim(p.Text, letters[:n]) != "" {
			return false
		}
	}
	return true
}

// countedFirst is what the document says of FirstCounts, in other words: the letters of those who have left are taken out of the texts.
func countedFirst(list []impl.Pile, left []bool) ([]int, bool) {
	if !doFit(list, len(left)) {
		return nil, false
	}
	counts := make([]int, len(left))
	for _, p := range list {
		stay := strings.Map(func(r rune) rune {
			if left[r-'a'] {
				return -1
			}
			return r
		}, p.Text)
		if stay != "" {
			counts[stay[0]-'a'] += p.Many
		}
	}
	return counts, true
}

// wonBy is what the document says of PluralityWinner and PluralityMargin, in other words.
func wonBy(list []impl.Pile, lots []int) (int, int) {
	if !areLots(lots) {
		return -1, -1
	}
	counts, ok := countedFirst(list, make([]bool, len(lots)))
	if !ok {
		return -1, -1
	}
	winner := lots[0]
	for _, c := range lots {
		if counts[c] > counts[winner] {
			winner = c
		}
	}
	sorted := append(slices.Sorted(slices.Values(counts)), 0)
	slices.Reverse(sorted[:len(counts)])
	return winner, sorted[0] - sorted[1]
}

// mustCount returns the first counts of piles, which must be those that are due.
func mustCount(t *testing.T, list []impl.Pile, left []bool) []int {
	t.Helper()
	counts, ok := impl.FirstCounts(list, left)
	want, fine := countedFirst(list, left)
	if !fine || !ok || !slices.Equal(counts, want) {
		t.Fatalf("FirstCounts(%v, %v) returned %v, %v, not %v, %v", list, left, counts, ok, want, fine)
	}
	return counts
}

// mustWin returns the winner and the margin, which must be those that are due, and exist.
func mustWin(t *testing.T, list []impl.Pile, lots []int) (int, int) {
	t.Helper()
	winner, margin := impl.PluralityWinner(list, lots), impl.PluralityMargin(list, lots)
	wantWinner, wantMargin := wonBy(list, lots)
	if winner != wantWinner || margin != wantMargin || winner < 0 || margin < 0 {
		t.Fatalf("the winner of %v with lots %v is %d by %d, not %d by %d", list, lots, winner, margin, wantWinner, wantMargin)
	}
	return winner, margin
}

// checkNoCounts tells if there are counts.
func checkNoCounts(t *testing.T, list []impl.Pile, left []bool) {
	t.Helper()
	if counts, ok := impl.FirstCounts(list, left); ok || len(counts) != 0 {
		t.Fatalf("FirstCounts(%.200v, %.100v) returned %v, %v", list, left, counts, ok)
	}
}

// checkNoWinner tells if there is a winner, or a margin.
func checkNoWinner(t *testing.T, list []impl.Pile, lots []int) {
	t.Helper()
	if winner := impl.PluralityWinner(list, lots); winner != -1 {
		t.Fatalf("PluralityWinner(%.200v, %.100v) returned %d", list, lots, winner)
	}
	if margin := impl.PluralityMargin(list, lots); margin != -1 {
		t.Fatalf("PluralityMargin(%.200v, %.100v) returned %d", list, lots, margin)
	}
}

// eachFit calls a check with many piles for all numbers of candidates.
func eachFit(check func(list []impl.Pile, n int)) {
	for n := 1; n <= 5; n++ {
		for _, list := range append(pilesFor(n), pilesOfFirst(min(n, 4))...) {
			check(list, n)
		}
	}
}

// eachContest calls a check with many piles and lots.
func eachContest(check func(list []impl.Pile, lots []int)) {
	orders := [][][]int{}
	for n := range 6 {
		orders = append(orders, someOrders(n))
	}
	eachFit(func(list []impl.Pile, n int) {
		for _, lots := range orders[n] {
			check(list, lots)
		}
	})
}

func TestFirstCountsExamples(t *testing.T) {
	list := piles([]string{"", "abc", "b", "ca", "cb"}, 7, 5, 4, 2, 1)
	for _, e := range []struct {
		list []impl.Pile
		left []bool
		want []int
	}{
		{list, []bool{false, false, false}, []int{5, 4, 3}},
		{list, []bool{true, false, false}, []int{0, 9, 3}},
		{list, []bool{false, true, false}, []int{5, 0, 3}},
		{list, []bool{false, false, true}, []int{7, 5, 0}},
		{list, []bool{true, true, false}, []int{0, 0, 8}},
		{list, []bool{true, false, true}, []int{0, 10, 0}},
		{list, []bool{false, true, true}, []int{7, 0, 0}},
		{list, []bool{true, true, true}, []int{0, 0, 0}},
		// There are more candidates than the ballots name.
		{list, make([]bool, 4), []int{5, 4, 3, 0}},
		{list, make([]bool, 5), []int{5, 4, 3, 0, 0}},
		{list, []bool{true, false, false, true, true}, []int{0, 9, 3, 0, 0}},
		// There are fewer.
		{list, make([]bool, 2), nil}, {list, make([]bool, 1), nil}, {list, []bool{true, true}, nil},
		{list, nil, nil}, {list, make([]bool, 6), nil},
		// There are no piles, or no names.
		{nil, []bool{false}, []int{0}}, {nil, []bool{true}, []int{0}}, {nil, make([]bool, 5), []int{0, 0, 0, 0, 0}},
		{[]impl.Pile{}, make([]bool, 2), []int{0, 0}}, {nil, nil, nil}, {nil, []bool{}, nil}, {nil, make([]bool, 6), nil}, {nil, make([]bool, 1000), nil},
		{piles([]string{""}, 99), []bool{false}, []int{0}}, {piles([]string{""}, 99), make([]bool, 5), []int{0, 0, 0, 0, 0}}, {piles([]string{""}, 99), nil, nil},
		// There is one candidate alone.
		{piles([]string{"a"}, 99), []bool{false}, []int{99}}, {piles([]string{"a"}, 99), []bool{true}, []int{0}},
		{piles([]string{"", "a"}, 3, 4), []bool{false}, []int{4}}, {piles([]string{"", "a"}, 3, 4), []bool{true}, []int{0}}, {piles([]string{"", "b"}, 3, 4), []bool{false}, nil}, {piles([]string{"ab"}, 1), []bool{false}, nil},
		// Ballots lead to a candidate who comes late on them, or to nobody.
		{piles([]string{"abcde", "edcba"}, 2, 3), []bool{true, true, true, true, false}, []int{0, 0, 0, 0, 5}},
		{piles([]string{"abcde", "edcba"}, 2, 3), []bool{true, true, false, true, true}, []int{0, 0, 5, 0, 0}},
		{piles([]string{"abcd", "edcba"}, 2, 3), []bool{true, true, true, true, false}, []int{0, 0, 0, 0, 3}},
		{piles([]string{"abcde", "edcba"}, 2, 3), slices.Repeat([]bool{true}, 5), []int{0, 0, 0, 0, 0}},
		// Piles are invalid.
		{piles([]string{"b", "a"}, 1), make([]bool, 2), nil}, {piles([]string{"a"}, 0), make([]bool, 2), nil}, {piles([]string{"a"}, 100), make([]bool, 2), nil}, {piles([]string{"a", "a"}, 1), make([]bool, 2), nil}, {piles([]string{"aa"}, 1), make([]bool, 2), nil}, {piles([]string{"f"}, 1), make([]bool, 5), nil}, {piles([]string{"f"}, 1), make([]bool, 6), nil},
	} {
		got, ok := impl.FirstCounts(e.list, e.left)
		if ok != (e.want != nil) || !slices.Equal(got, e.want) {
			t.Errorf("FirstCounts(%v, %v) returned %v, %v, not %v", e.list, e.left, got, ok, e.want)
		}
	}
}

func TestFirstCountsOfAllTexts(t *testing.T) {
	for n := 1; n <= 5; n++ {
		masks := masksOf(n)
		for _, text := range append(ballotTexts(), badTexts...) {
			list := piles([]string{text}, 7)
			for _, left := range masks {
				got, ok := impl.FirstCounts(list, left)
				want, fine := countedFirst(list, left)
				if ok != fine || !slices.Equal(got, want) {
					t.Fatalf("FirstCounts(%.100v, %v) returned %v, %v, not %v, %v", list, left, got, ok, want, fine)
				}
			}
		}
	}
}

func TestFirstCountsOfAllNumbersOfPiles(t *testing.T) {
	texts := ballotTexts()
	for length := range 14 {
		for start := 0; start+length <= len(texts); start++ {
			list := piles(texts[start:start+length], 1, 2, 4, 8, 16, 32, 64, 99, 97, 89, 83, 79)
			if length == 13 {
				checkNoCounts(t, list, make([]bool, 5))
				continue
			}
			mustCount(t, list, make([]bool, 5))
			mustCount(t, list, []bool{start%2 == 0, start%3 == 0, start%5 == 0, start%7 == 0, false})
		}
	}
	full := mustCount(t, piles([]string{"", "a", "ab", "abc", "abcd", "ac", "b", "ba", "c", "d", "da", "e"}, 99), make([]bool, 5))
	if !slices.Equal(full, []int{5 * 99, 2 * 99, 99, 2 * 99, 99}) {
		t.Errorf("the counts are %v", full)
	}
}

func TestFirstCountsOfInvalidPiles(t *testing.T) {
	for _, list := range invalidPiles() {
		for n := range 8 {
			checkNoCounts(t, list, make([]bool, n))
			checkNoCounts(t, list, slices.Repeat([]bool{true}, n))
		}
	}
}

func TestFirstCountsOfTooFewCandidates(t *testing.T) {
	for n := 1; n <= 4; n++ {
		for _, text := range ballotTexts() {
			if strings.Trim(text, letters[:n]) == "" {
				continue
			}
			for _, others := range [][]string{{}, {""}, {"a"}, {"", "a"}} {
				list := piles(append(slices.Clone(others), text), 2)
				checkNoCounts(t, list, make([]bool, n))
				checkNoCounts(t, list, slices.Repeat([]bool{true}, n))
				checkNoWinner(t, list, ordersOf(n)[0])
			}
		}
	}
	// One ballot of one pile is enough, wherever it is.
	for _, list := range [][]impl.Pile{
		piles([]string{"", "a", "ab", "ac", "acb", "b", "ba", "bc", "bca", "c", "ca", "d"}, 99, 1),
		piles([]string{"", "a", "abcd", "ac", "acb", "b", "ba", "bc", "bca", "c", "ca", "cab"}, 99, 99, 1),
	} {
		mustCount(t, list, make([]bool, 4))
		mustWin(t, list, []int{3, 2, 1, 0})
		checkNoCounts(t, list, make([]bool, 3))
		checkNoWinner(t, list, []int{2, 1, 0})
	}
}

func TestFirstCountsOfNoNumberOfCandidates(t *testing.T) {
	for _, list := range append(manyPiles(), nil, piles([]string{""}, 1)) {
		for _, n := range []int{0, 6, 7, 100} {
			checkNoCounts(t, list, make([]bool, n))
			checkNoCounts(t, list, slices.Repeat([]bool{true}, n))
		}
	}
}

func TestPromise38SumOfCounts(t *testing.T) {
	less, equal := 0, 0
	eachFit(func(list []impl.Pile, n int) {
		for _, left := range masksOf(n) {
			sum := 0
			for c, many := range mustCount(t, list, left) {
				if many < 0 || left[c] && many != 0 {
					t.Fatalf("FirstCounts(%v, %v) has %d ballots for %d", list, left, many, c)
				}
				sum += many
			}
			switch total := impl.PilesTotal(list); {
			case sum > total:
				t.Fatalf("FirstCounts(%v, %v) has %d ballots, which are not there", list, left, sum)
			case sum < total:
				less++
			default:
				equal++
			}
		}
	})
	if less < 1000 || equal < 1000 {
		t.Errorf("%d sums are less than the total, and %d equal", less, equal)
	}
}

func TestPromise38NobodyAndAllHaveLeft(t *testing.T) {
	eachFit(func(list []impl.Pile, n int) {
		named := 0
		for _, p := range list {
			if p.Text != "" {
				named += p.Many
			}
		}
		sum := 0
		for _, many := range mustCount(t, list, make([]bool, n)) {
			sum += many
		}
		if sum != named {
			t.Fatalf("%d ballots of %v are counted for %d candidates, not %d", sum, list, n, named)
		}
		if none := mustCount(t, list, slices.Repeat([]bool{true}, n)); !slices.Equal(none, make([]int, n)) {
			t.Fatalf("if all have left, the counts of %v are %v", list, none)
		}
	})
}

func TestPromise39NobodyHasLessIfOneLeaves(t *testing.T) {
	more := 0
	eachFit(func(list []impl.Pile, n int) {
		for _, left := range masksOf(n) {
			before := mustCount(t, list, left)
			for leaver := range n {
				if left[leaver] {
					continue
				}
				fewer := slices.Clone(left)
				fewer[leaver] = true
				for c, many := range mustCount(t, list, fewer) {
					if c != leaver && many < before[c] {
						t.Fatalf("%d has %d ballots of %v without %v, and %d without %d, too", c, before[c], list, left, many, leaver)
					}
					if many > before[c] {
						more++
					}
				}
			}
		}
	})
	if more < 1000 {
		t.Errorf("only %d counts have grown", more)
	}
}

// checkParts checks that the counts of all piles are those of both parts together.
func checkParts(t *testing.T, list []impl.Pile, first []impl.Pile, other []impl.Pile, left []bool) {
	t.Helper()
	sum := mustCount(t, first, left)
	for c, many := range mustCount(t, other, left) {
		sum[c] += many
	}
	if got := mustCount(t, list, left); !slices.Equal(got, sum) {
		t.Fatalf("FirstCounts(%v, %v) returned %v, and %v for %v and %v", list, left, got, sum, first, other)
	}
}

// inTurn puts piles into two parts in turn.
func inTurn(list []impl.Pile) ([]impl.Pile, []impl.Pile) {
	even, odd := []impl.Pile{}, []impl.Pile{}
	for i, p := range list {
		if i%2 == 0 {
			even = append(even, p)
		} else {
			odd = append(odd, p)
		}
	}
	return even, odd
}

func TestPromise40CountsOfBothParts(t *testing.T) {
	eachFit(func(list []impl.Pile, n int) {
		left := make([]bool, n)
		left[len(list)%n] = n > 1
		for k := range len(list) + 1 {
			checkParts(t, list, list[:k], list[k:], make([]bool, n))
			checkParts(t, list, list[:k], list[k:], left)
		}
		even, odd := inTurn(list)
		checkParts(t, list, even, odd, left)
	})
}

func TestPluralityExamples(t *testing.T) {
	for _, e := range []struct {
		list           []impl.Pile
		lots           []int
		winner, margin int
	}{
		{piles([]string{"a", "b"}, 3, 2), []int{0, 1}, 0, 1}, {piles([]string{"a", "b"}, 3, 2), []int{1, 0}, 0, 1},
		{piles([]string{"a", "b"}, 2, 3), []int{0, 1}, 1, 1}, {piles([]string{"a", "b"}, 1, 99), []int{0, 1}, 1, 98},
		{piles([]string{"a", "ab", "b"}, 2, 2, 3), []int{1, 0}, 0, 1}, {piles([]string{"ab", "b", "ba"}, 3, 2, 2), []int{0, 1}, 1, 1},
		{piles([]string{"abc", "bca", "cab"}, 4, 6, 3), []int{2, 1, 0}, 1, 2}, {piles([]string{"abc", "bca", "cab"}, 4, 3, 6), []int{0, 1, 2}, 2, 2},
		// The second candidates do not count, nor do ballots that name nobody.
		{piles([]string{"", "abc", "c", "cb"}, 99, 5, 1, 3), []int{2, 1, 0}, 0, 1},
		// Counts are equal: the lots decide.
		{piles([]string{"a", "b"}, 3), []int{0, 1}, 0, 0}, {piles([]string{"a", "b"}, 3), []int{1, 0}, 1, 0}, {piles([]string{"a", "b"}, 99), []int{1, 0}, 1, 0},
		{piles([]string{"ab", "b", "c"}, 3, 3, 1), []int{2, 1, 0}, 1, 0}, {piles([]string{"ab", "b", "c"}, 3, 3, 1), []int{2, 0, 1}, 0, 0}, {piles([]string{"ab", "b", "c"}, 1, 3, 3), []int{0, 2, 1}, 2, 0},
		{piles([]string{"a", "b", "c"}, 5), []int{1, 2, 0}, 1, 0}, {piles([]string{"a", "b", "c"}, 5), []int{2, 0, 1}, 2, 0}, {piles([]string{"a", "b", "c", "d", "e"}, 5), []int{3, 0, 1, 4, 2}, 3, 0},
		{piles([]string{"a", "ac", "b", "c"}, 1, 2, 3, 3), []int{2, 1, 0}, 2, 0}, {piles([]string{"b", "d"}, 5, 5), []int{0, 4, 3, 2, 1}, 3, 0}, {piles([]string{"b", "d", "e"}, 4, 4, 3), []int{4, 2, 0, 1, 3}, 1, 0},
		// Nobody has a ballot.
		{nil, []int{0}, 0, 0}, {nil, []int{0, 1}, 0, 0}, {nil, []int{1, 0}, 1, 0}, {nil, []int{4, 2, 0, 1, 3}, 4, 0}, {[]impl.Pile{}, []int{2, 0, 1}, 2, 0},
		{piles([]string{""}, 99), []int{0}, 0, 0}, {piles([]string{""}, 1), []int{1, 2, 0}, 1, 0},
		// There is one candidate alone, whose margin is the number of its ballots.
		{piles([]string{"a"}, 1), []int{0}, 0, 1}, {piles([]string{"a"}, 99), []int{0}, 0, 99}, {piles([]string{"", "a"}, 7, 5), []int{0}, 0, 5},
		// Nobody names the others.
		{piles([]string{"a"}, 7), []int{1, 0}, 0, 7}, {piles([]string{"a"}, 7), []int{4, 3, 2, 1, 0}, 0, 7}, {piles([]string{"e"}, 7), []int{0, 1, 2, 3, 4}, 4, 7}, {piles([]string{"abcde", "acbde"}, 99), []int{4, 3, 2, 1, 0}, 0, 198},
		// The lots are invalid.
		{nil, nil, -1, -1}, {nil, []int{1}, -1, -1}, {piles([]string{"a"}, 1), nil, -1, -1}, {piles([]string{"a"}, 1), []int{1}, -1, -1}, {piles([]string{"a", "b"}, 1), []int{0, 0}, -1, -1}, {piles([]string{"a", "b"}, 1), []int{1, 2}, -1, -1}, {piles([]string{"a", "b"}, 1), []int{0, 1, 2, 3, 4, 5}, -1, -1},
		// There are lots of too few candidates.
		{piles([]string{"a", "b"}, 3, 2), []int{0}, -1, -1}, {piles([]string{"ab"}, 3), []int{0}, -1, -1}, {piles([]string{"a", "b", "bc"}, 3, 2, 1), []int{1, 0}, -1, -1}, {piles([]string{"e"}, 1), []int{3, 2, 1, 0}, -1, -1},
		// Piles are invalid.
		{piles([]string{"b", "a"}, 1), []int{0, 1}, -1, -1}, {piles([]string{"a"}, 0), []int{0, 1}, -1, -1}, {piles([]string{"a"}, 100), []int{0}, -1, -1}, {piles([]string{"a", "a"}, 1), []int{0}, -1, -1},
	} {
		if got := impl.PluralityWinner(e.list, e.lots); got != e.winner {
			t.Errorf("PluralityWinner(%v, %v) returned %d, not %d", e.list, e.lots, got, e.winner)
		}
		if got := impl.PluralityMargin(e.list, e.lots); got != e.margin {
			t.Errorf("PluralityMargin(%v, %v) returned %d, not %d", e.list, e.lots, got, e.margin)
		}
	}
}

func TestPluralityOfInvalidArguments(t *testing.T) {
	for _, list := range invalidPiles() {
		for n := 1; n <= 5; n++ {
			checkNoWinner(t, list, ordersOf(n)[0])
			checkNoWinner(t, list, ordersOf(n)[factorial(n)-1])
		}
		checkNoWinner(t, list, nil)
		checkNoWinner(t, list, []int{0, 0})
	}
	for _, list := range [][]impl.Pile{nil, piles([]string{""}, 1), piles([]string{"a"}, 1), piles([]string{"a", "b"}, 2, 1), piles([]string{"abcde", "edcba"}, 99), piles(ballotTexts()[:12], 1)} {
		for _, lots := range append(listsOf(-1, 5, 4), invalidLots()...) {
			if !areLots(lots) {
				checkNoWinner(t, list, lots)
			}
		}
	}
}

func TestPluralityOfAllNumbersOfLots(t *testing.T) {
	won, refused := 0, 0
	for _, list := range manyPiles() {
		for n := 1; n <= 5; n++ {
			lots := ordersOf(n)[len(list)%factorial(n)]
			if doFit(list, n) {
				mustWin(t, list, lots)
				won++
			} else {
				checkNoWinner(t, list, lots)
				refused++
			}
		}
	}
	if won < 100 || refused < 100 {
		t.Errorf("%d contests have a winner, and %d have none", won, refused)
	}
}

func TestPromise41NoGreaterCountAndNoEarlierLot(t *testing.T) {
	decided := 0
	eachContest(func(list []impl.Pile, lots []int) {
		winner, _ := mustWin(t, list, lots)
		counts := mustCount(t, list, make([]bool, len(lots)))
		equals := 0
		for c, many := range counts {
			if many > counts[winner] {
				t.Fatalf("%d wins with %v and lots %v, though %d has more", winner, counts, lots, c)
			}
			if c != winner && many == counts[winner] {
				equals++
				if slices.Index(lots, c) < slices.Index(lots, winner) {
					t.Fatalf("%d wins with %v and lots %v, though %d has an earlier lot", winner, counts, lots, c)
				}
			}
		}
		if equals > 0 {
			decided++
		}
	})
	if decided < 1000 {
		t.Errorf("only %d contests were decided by lots", decided)
	}
}

func TestPromise41EachLotDecides(t *testing.T) {
	for n := 1; n <= 5; n++ {
		for _, some := range masksOf(n) {
			// All of some have two ballots, and all others one.
			list := []impl.Pile{}
			for c, one := range some {
				many := 1
				if one {
					many = 2
				}
				list = append(list, impl.Pile{Text: letters[c : c+1], Many: many})
			}
			for _, lots := range ordersOf(n) {
				want := lots[0]
				if slices.Contains(some, true) {
					want = impl.LotsFirst(lots, some)
				}
				if winner, _ := mustWin(t, list, lots); winner != want {
					t.Fatalf("PluralityWinner(%v, %v) returned %d", list, lots, winner)
				}
			}
		}
	}
}

func TestPromise42AFurtherBallot(t *testing.T) {
	room, full := 0, 0
	eachContest(func(list []impl.Pile, lots []int) {
		winner, margin := mustWin(t, list, lots)
		more, ok := impl.PilesAdd(list, letters[winner:winner+1], 1)
		if !ok {
			full++
			return
		}
		room++
		again, greater := mustWin(t, more, lots)
		if again != winner || greater != margin+1 {
			t.Fatalf("the winner of %v with lots %v is %d by %d, and with a further ballot %d by %d", list, lots, winner, margin, again, greater)
		}
	})
	if room < 1000 || full < 100 {
		t.Errorf("there was room in %d contests, and none in %d", room, full)
	}
}

func TestPromise42UpToAFullPile(t *testing.T) {
	for _, lots := range [][]int{{0}, {1, 0}, {2, 0, 1}, {4, 3, 2, 1, 0}} {
		winner := lots[0]
		list := []impl.Pile{}
		for many := 0; many <= 99; many++ {
			if got, margin := mustWin(t, list, lots); got != winner || margin != many {
				t.Fatalf("the winner of %v with lots %v is %d by %d", list, lots, got, margin)
			}
			more, ok := impl.PilesAdd(list, letters[winner:winner+1], 1)
			if ok != (many < 99) {
				t.Fatalf("there is room for ballot %d: %v", many+1, ok)
			}
			list = more
		}
	}
}

func TestPromise42TheLastPile(t *testing.T) {
	texts := []string{"ab", "abc", "abd", "ac", "acb", "b", "ba", "bc", "bca", "c", "ca", "cb"}
	lots := []int{3, 2, 1, 0}
	// There are already as many piles as there can be, none of them of the winner alone.
	if winner, margin := mustWin(t, piles(texts, 1), lots); winner != 0 || margin != 1 {
		t.Fatalf("the winner is %d by %d", winner, margin)
	}
	if _, ok := impl.PilesAdd(piles(texts, 1), "a", 1); ok {
		t.Fatal("there are 13 piles")
	}
	// The further ballot is the last pile that there can be.
	list := piles(texts[:11], 1)
	winner, margin := mustWin(t, list, lots)
	more, ok := impl.PilesAdd(list, "a", 1)
	if again, greater := mustWin(t, more, lots); !ok || len(more) != 12 || winner != 0 || again != 0 || greater != margin+1 {
		t.Errorf("the winner of %v is %d by %d, after %d by %d", more, again, greater, winner, margin)
	}
	// It has a pile already, which becomes full.
	list = append(piles([]string{"a"}, 98), piles(texts[:11], 1)...)
	winner, margin = mustWin(t, list, lots)
	more, ok = impl.PilesAdd(list, "a", 1)
	if again, greater := mustWin(t, more, lots); !ok || more[0].Many != 99 || winner != 0 || again != 0 || greater != margin+1 {
		t.Errorf("the winner of %v is %d by %d, after %d by %d", more, again, greater, winner, margin)
	}
	if _, ok = impl.PilesAdd(more, "a", 1); ok {
		t.Error("a pile has 100 ballots")
	}
}

// turnedNumber returns what two candidates that are exchanged make of a candidate.
func turnedNumber(c int, x int, y int) int {
	switch c {
	case x:
		return y
	case y:
		return x
	}
	return c
}

// turnedNumbers returns lots in which two candidates are exchanged.
func turnedNumbers(lots []int, x int, y int) []int {
	turned := []int{}
	for _, c := range lots {
		turned = append(turned, turnedNumber(c, x, y))
	}
	return turned
}

func TestPromise43TheWinnerExchanged(t *testing.T) {
	changed, contests := 0, 0
	eachContest(func(list []impl.Pile, lots []int) {
		// All contests would take long, and a fifth of them still has all lots.
		if contests++; contests%5 != 0 {
			return
		}
		winner, margin := mustWin(t, list, lots)
		for x := range lots {
			for y := range x + 1 {
				turned, ok := impl.PilesTurn(list, x, y)
				if !ok {
					t.Fatalf("PilesTurn(%v, %d, %d) failed", list, x, y)
				}
				got, same := mustWin(t, turned, turnedNumbers(lots, x, y))
				if got != turnedNumber(winner, x, y) || same != margin {
					t.Fatalf("the winner of %v with lots %v is %d by %d, and with %d and %d exchanged %d by %d", list, lots, winner, margin, x, y, got, same)
				}
				if got != winner {
					changed++
				}
			}
		}
	})
	if changed < 1000 {
		t.Errorf("only %d winners have been exchanged", changed)
	}
}

func TestPromise44MarginOverTheOthers(t *testing.T) {
	margins := map[int]int{}
	eachContest(func(list []impl.Pile, lots []int) {
		winner, margin := mustWin(t, list, lots)
		counts := mustCount(t, list, make([]bool, len(lots)))
		next := false
		for c, many := range counts {
			if c == winner {
				continue
			}
			if counts[winner]-many < margin {
				t.Fatalf("%d wins %v by %d, though %d is nearer", winner, counts, margin, c)
			}
			next = next || counts[winner]-many == margin
		}
		if len(counts) > 1 && !next {
			t.Fatalf("%d wins %v by %d, though nobody is so near", winner, counts, margin)
		}
		if len(counts) == 1 && margin != counts[0] {
			t.Fatalf("%d wins %v by %d", winner, counts, margin)
		}
		margins[min(margin, 2)]++
	})
	for margin := range 3 {
		if margins[margin] < 1000 {
			t.Errorf("only %d contests have the margin %d, or more if it is 2", margins[margin], margin)
		}
	}
}

func TestPluralityArgumentsAreNotChanged(t *testing.T) {
	for _, list := range append(append(manyPiles(), invalidPiles()...), nil) {
		for n := range 7 {
			// What is in the spare capacity belongs to the caller, too.
			first := append(slices.Clone(list), sparePiles...)
			order := append(slices.Clone([]int{3, 1, 0, 2, 4, 5}[:n]), 41, 42)
			numbers := slices.Clone(order)
			some := []bool{true, false, true, false, true, true, false, true}
			kept := slices.Clone(some)
			impl.FirstCounts(first[:len(list)], some[:n])
			impl.PluralityWinner(first[:len(list)], numbers[:n])
			impl.PluralityMargin(first[:len(list)], numbers[:n])
			if !slices.Equal(first, append(slices.Clone(list), sparePiles...)) || !slices.Equal(numbers, order) || !slices.Equal(some, kept) {
				t.Fatalf("%.100v, %v and %v have become %.100v, %v and %v", list, order, kept, first, numbers, some)
			}
		}
	}
}

func TestFirstCountsShareNoMemory(t *testing.T) {
	eachFit(func(list []impl.Pile, n int) {
		left := make([]bool, n)
		own := slices.Clone(list)
		first, second := mustCount(t, own, left), mustCount(t, own, left)
		for i := range first[:cap(first)] {
			first[:cap(first)][i] = -7
		}
		// No goroutine reads the arguments any more.
		for i := range own {
			own[i] = impl.Pile{Text: "?", Many: -7}
		}
		for c := range left {
			left[c] = true
		}
		if want, _ := countedFirst(list, make([]bool, n)); !slices.Equal(second, want) {
			t.Fatalf("FirstCounts of %v is %v, and has become %v", list, want, second)
		}
	})
}

func TestPluralityIsTheSameAtTheSameTime(t *testing.T) {
	list := piles([]string{"", "abc", "acb", "b", "bac", "c", "cab", "cba", "d", "da", "db", "e"}, 9, 8, 7, 6, 5)
	left, lots := []bool{false, true, false, false, true}, []int{4, 3, 2, 1, 0}
	want := mustCount(t, list, left)
	winner, margin := mustWin(t, list, lots)
	var callers sync.WaitGroup
	for range 8 {
		callers.Go(func() {
			for range 500 {
				if counts, ok := impl.FirstCounts(list, left); !ok || !slices.Equal(counts, want) {
					t.Errorf("FirstCounts was %v, then %v", want, counts)
				}
				if impl.PluralityWinner(list, lots) != winner || impl.PluralityMargin(list, lots) != margin {
					t.Error("the winner or the margin has changed")
				}
			}
		})
	}
	callers.Wait()
}

func TestFirstCountsLeaveNoGoroutine(t *testing.T) {
	before := runtime.NumGoroutine()
	list := piles(ballotTexts()[:12], 1)
	for range 1000 {
		mustCount(t, list, make([]bool, 5))
		checkNoCounts(t, list, make([]bool, 1))
	}
	// A goroutine that is joined may still need a moment to end.
	for range 500 {
		if runtime.NumGoroutine() <= before {
			return
		}
		time.Sleep(10 * time.Millisecond)
	}
	t.Errorf("there were %d goroutines, and now there are %d", before, runtime.NumGoroutine())
}
