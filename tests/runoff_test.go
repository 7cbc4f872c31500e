package tests

import (
	"math"
	"slices"
	"strings"
	"sync"
	"testing"

	"loop.example/tallyaudit/impl"
)

// round returns a round of a runoff.
func round(out int, counts ...int) impl.Round {
	return impl.Round{Counts: counts, Out: out}
}

// sameRounds reports whether rounds are the same, one by one.
func sameRounds(a []impl.Round, b []impl.Round) bool {
	return slices.EqualFunc(a, b, func(r impl.Round, s impl.Round) bool {
		return r.Out == s.Out && slices.Equal(r.Counts, s.Counts)
	})
}

// clonedRounds returns rounds that share no memory with others.
func clonedRounds(rounds []impl.Round) []impl.Round {
	cloned := []impl.Round{}
	for _, r := range rounds {
		cloned = append(cloned, round(r.Out, slices.Clone(r.Counts)...))
	}
	return cloned
}

// sumOfCounts returns the sum of all counts.
func sumOfCounts(counts []int) int {
	sum := 0
	for _, many := range counts {
		sum += many
	}
	return sum
}

// ranRunoff is what the document says of RunoffRounds and RunoffWinner, in other words: those who stay are kept in the order in which the lots make them leave.
func ranRunoff(list []impl.Pile, lots []int) ([]impl.Round, int, bool) {
	if !areLots(lots) || !doFit(list, len(lots)) {
		return nil, -1, false
	}
	stay := slices.Clone(lots)
	slices.Reverse(stay)
	left := make([]bool, len(lots))
	rounds := []impl.Round{}
	for {
		counts, _ := countedFirst(list, left)
		more := func(x int, y int) int { return counts[x] - counts[y] }
		best := slices.MaxFunc(stay, more)
		if len(stay) == 1 || counts[best] > sumOfCounts(counts)-counts[best] {
			return append(rounds, round(-1, counts...)), best, true
		}
		out := slices.MinFunc(stay, more)
		rounds = append(rounds, round(out, counts...))
		left[out] = true
		stay = slices.DeleteFunc(stay, func(c int) bool { return c == out })
	}
}

// mustRunOff returns the rounds and the winner of a runoff, which must be those that are due, and exist.
func mustRunOff(t *testing.T, list []impl.Pile, lots []int) ([]impl.Round, int) {
	t.Helper()
	rounds, ok := impl.RunoffRounds(list, lots)
	winner := impl.RunoffWinner(list, lots)
	want, due, fine := ranRunoff(list, lots)
	if !ok || !fine || winner != due || !sameRounds(rounds, want) {
		t.Fatalf("the runoff of %v with lots %v has the rounds %v, %v and the winner %d, not %v, %v and %d", list, lots, rounds, ok, winner, want, fine, due)
	}
	return rounds, winner
}

// checkNoRunoff tells if there are rounds, or a winner, or rounds that hold.
func checkNoRunoff(t *testing.T, list []impl.Pile, lots []int) {
	t.Helper()
	if rounds, ok := impl.RunoffRounds(list, lots); ok || len(rounds) != 0 {
		t.Fatalf("RunoffRounds(%.200v, %.100v) returned %v, %v", list, lots, rounds, ok)
	}
	if winner := impl.RunoffWinner(list, lots); winner != -1 {
		t.Fatalf("RunoffWinner(%.200v, %.100v) returned %d", list, lots, winner)
	}
	for _, rounds := range [][]impl.Round{nil, {}, {{}}, {{Out: -1}}, {round(-1, 0)}, {round(-1, 0, 0)}, {round(1, 0, 0), round(-1, 0, 0)}, {round(-1, make([]int, len(lots))...)}} {
		if impl.RunoffCheck(list, lots, rounds) {
			t.Fatalf("RunoffCheck(%.200v, %.100v, %v) is true", list, lots, rounds)
		}
	}
}

// leftBefore tells who has left before each round.
func leftBefore(rounds []impl.Round) [][]bool {
	left := make([]bool, len(rounds[0].Counts))
	all := [][]bool{}
	for _, r := range rounds {
		all = append(all, slices.Clone(left))
		if r.Out != -1 {
			left[r.Out] = true
		}
	}
	return all
}

// pilesOfRunoffs returns piles for n candidates whose runoffs have many rounds, with counts that are close to each other.
func pilesOfRunoffs(n int) [][]impl.Pile {
	texts := textsFor(n)
	lists := [][]impl.Pile{}
	for k := range 150 {
		some := map[string]bool{}
		for i := range 3 + k%10 {
			some[texts[(k*(k+7)+i*(i+k)*37+i*11)%len(texts)]] = true
		}
		list := []impl.Pile{}
		for i, text := range texts {
			if some[text] {
				many := 1 + (i*k+i+k/2)%(2+k%17)
				// One candidate has about half of all ballots in each third list.
				if k%3 == 0 && strings.HasPrefix(text, letters[k%n:k%n+1]) {
					many *= n
				}
				list = append(list, impl.Pile{Text: text, Many: many})
			}
		}
		lists = append(lists, list)
	}
	return lists
}

// eachRunoff calls a check with many piles and lots.
func eachRunoff(check func(list []impl.Pile, lots []int)) {
	contests := 0
	eachContest(func(list []impl.Pile, lots []int) {
		// All contests would take long, and a seventh of them still has all lots.
		if contests++; len(lots) < 4 || contests%7 == 0 {
			check(list, lots)
		}
	})
	for n := 1; n <= 5; n++ {
		orders := someOrders(n)
		for _, list := range pilesOfRunoffs(n) {
			for _, lots := range orders {
				check(list, lots)
			}
		}
	}
}

// runoffExample is a runoff whose rounds and winner were found by hand.
type runoffExample struct {
	list   []impl.Pile
	lots   []int
	rounds []impl.Round
	winner int
}

// checkRunoffs checks examples of runoffs with all three functions.
func checkRunoffs(t *testing.T, examples []runoffExample) {
	t.Helper()
	for _, e := range examples {
		if got, ok := impl.RunoffRounds(e.list, e.lots); !ok || !sameRounds(got, e.rounds) {
			t.Errorf("RunoffRounds(%v, %v) returned %v, %v, not %v", e.list, e.lots, got, ok, e.rounds)
		}
		if got := impl.RunoffWinner(e.list, e.lots); got != e.winner {
			t.Errorf("RunoffWinner(%v, %v) returned %d, not %d", e.list, e.lots, got, e.winner)
		}
		if !impl.RunoffCheck(e.list, e.lots, e.rounds) {
			t.Errorf("RunoffCheck(%v, %v, %v) is false", e.list, e.lots, e.rounds)
		}
	}
}

func TestRunoffExamples(t *testing.T) {
	checkRunoffs(t, []runoffExample{
		{piles([]string{"a", "bc", "cb"}, 4, 3, 2), []int{0, 1, 2}, []impl.Round{round(2, 4, 3, 2), round(-1, 4, 5, 0)}, 1},
		// The ballots of one who leaves pass over one who has left before.
		{piles([]string{"a", "b", "cda", "d"}, 4, 3, 2, 1), []int{3, 2, 1, 0}, []impl.Round{round(3, 4, 3, 2, 1), round(2, 4, 3, 2, 0), round(-1, 6, 3, 0, 0)}, 0},
		{piles([]string{"ab", "b", "cab", "de", "ecab"}, 5, 6, 4, 3, 2), []int{0, 1, 2, 3, 4}, []impl.Round{round(4, 5, 6, 4, 3, 2), round(3, 5, 6, 6, 3, 0), round(0, 5, 6, 6, 0, 0), round(-1, 0, 11, 6, 0, 0)}, 1},
		// There is a majority in the first round.
		{piles([]string{"a", "b", "c"}, 5, 2, 2), []int{2, 1, 0}, []impl.Round{round(-1, 5, 2, 2)}, 0},
		{piles([]string{"a", "b"}, 49, 50), []int{0, 1}, []impl.Round{round(-1, 49, 50)}, 1},
		{piles([]string{"ab", "e"}, 98, 99), []int{0, 1, 2, 3, 4}, []impl.Round{round(-1, 98, 0, 0, 0, 99)}, 4},
		{piles([]string{"c"}, 1), []int{0, 1, 2}, []impl.Round{round(-1, 0, 0, 1)}, 2},
		// Exactly half of all counts is no majority.
		{piles([]string{"a", "b", "cb"}, 4, 3, 1), []int{0, 1, 2}, []impl.Round{round(2, 4, 3, 1), round(1, 4, 4, 0), round(-1, 4, 0, 0)}, 0},
		{piles([]string{"a", "b", "cb"}, 4, 3, 1), []int{1, 0, 2}, []impl.Round{round(2, 4, 3, 1), round(0, 4, 4, 0), round(-1, 0, 4, 0)}, 1},
		{piles([]string{"a", "ba", "ca", "dab"}, 3, 1, 1, 1), []int{3, 2, 1, 0}, []impl.Round{round(1, 3, 1, 1, 1), round(-1, 4, 0, 1, 1)}, 0},
		{piles([]string{"a", "bc", "c", "d"}, 3, 1, 1, 1), []int{3, 2, 0, 1}, []impl.Round{round(1, 3, 1, 1, 1), round(3, 3, 0, 2, 1), round(-1, 3, 0, 2, 0)}, 0},
	})
}

func TestRunoffExamplesOfEqualCounts(t *testing.T) {
	three := piles([]string{"a", "b", "c"}, 2)
	checkRunoffs(t, []runoffExample{
		// Several have the least count: the one with the last lot leaves.
		{piles([]string{"a", "b"}, 3), []int{0, 1}, []impl.Round{round(1, 3, 3), round(-1, 3, 0)}, 0},
		{piles([]string{"a", "b"}, 3), []int{1, 0}, []impl.Round{round(0, 3, 3), round(-1, 0, 3)}, 1},
		{three, []int{1, 2, 0}, []impl.Round{round(0, 2, 2, 2), round(2, 0, 2, 2), round(-1, 0, 2, 0)}, 1},
		{three, []int{0, 2, 1}, []impl.Round{round(1, 2, 2, 2), round(2, 2, 0, 2), round(-1, 2, 0, 0)}, 0},
		{three, []int{2, 0, 1}, []impl.Round{round(1, 2, 2, 2), round(0, 2, 0, 2), round(-1, 0, 0, 2)}, 2},
		{piles([]string{"a", "b", "c"}, 3, 2, 2), []int{2, 0, 1}, []impl.Round{round(1, 3, 2, 2), round(-1, 3, 0, 2)}, 0},
		{piles([]string{"a", "bc", "cb"}, 3, 2, 2), []int{2, 0, 1}, []impl.Round{round(1, 3, 2, 2), round(-1, 3, 0, 4)}, 2},
		{piles([]string{"a", "bc", "cb"}, 3, 2, 2), []int{1, 2, 0}, []impl.Round{round(2, 3, 2, 2), round(-1, 3, 4, 0)}, 1},
		// Those whom nobody names leave first, one in each round.
		{piles([]string{"a", "b"}, 3), []int{2, 1, 0}, []impl.Round{round(2, 3, 3, 0), round(0, 3, 3, 0), round(-1, 0, 3, 0)}, 1},
		{piles([]string{"b", "d"}, 5), []int{0, 3, 2, 1, 4}, []impl.Round{round(4, 0, 5, 0, 5, 0), round(2, 0, 5, 0, 5, 0), round(0, 0, 5, 0, 5, 0), round(1, 0, 5, 0, 5, 0), round(-1, 0, 0, 0, 5, 0)}, 3},
	})
}

func TestRunoffExamplesOfBallotsThatEnd(t *testing.T) {
	checkRunoffs(t, []runoffExample{
		// All candidates of some ballots have left: half of the other ones is enough.
		{piles([]string{"a", "b", "c"}, 4, 3, 2), []int{0, 1, 2}, []impl.Round{round(2, 4, 3, 2), round(-1, 4, 3, 0)}, 0},
		{piles([]string{"a", "b", "cd", "dc"}, 40, 30, 25, 24), []int{0, 1, 2, 3}, []impl.Round{round(3, 40, 30, 25, 24), round(1, 40, 30, 49, 0), round(-1, 40, 0, 49, 0)}, 2},
		{piles([]string{"ab", "b", "c", "cb", "d"}, 5, 4, 2, 1, 2), []int{0, 1, 2, 3}, []impl.Round{round(3, 5, 4, 3, 2), round(2, 5, 4, 3, 0), round(1, 5, 5, 0, 0), round(-1, 5, 0, 0, 0)}, 0},
		// Some ballots name nobody.
		{piles([]string{"", "a", "b"}, 99, 2, 1), []int{1, 0}, []impl.Round{round(-1, 2, 1)}, 0},
		{piles([]string{"", "a", "b"}, 1, 2, 2), []int{1, 0}, []impl.Round{round(0, 2, 2), round(-1, 0, 2)}, 1},
		{piles([]string{"", "a", "bc", "c"}, 50, 3, 2, 2), []int{0, 1, 2}, []impl.Round{round(2, 3, 2, 2), round(-1, 3, 2, 0)}, 0},
		// Nobody has a ballot: all counts of the last round are equal, but all others have left.
		{nil, []int{0, 1}, []impl.Round{round(1, 0, 0), round(-1, 0, 0)}, 0},
		{[]impl.Pile{}, []int{1, 0}, []impl.Round{round(0, 0, 0), round(-1, 0, 0)}, 1},
		{nil, []int{2, 0, 1}, []impl.Round{round(1, 0, 0, 0), round(0, 0, 0, 0), round(-1, 0, 0, 0)}, 2},
		{piles([]string{""}, 99), []int{1, 2, 0}, []impl.Round{round(0, 0, 0, 0), round(2, 0, 0, 0), round(-1, 0, 0, 0)}, 1},
		{nil, []int{4, 2, 0, 1, 3}, []impl.Round{round(3, 0, 0, 0, 0, 0), round(1, 0, 0, 0, 0, 0), round(0, 0, 0, 0, 0, 0), round(2, 0, 0, 0, 0, 0), round(-1, 0, 0, 0, 0, 0)}, 4},
		// There is one candidate alone.
		{nil, []int{0}, []impl.Round{round(-1, 0)}, 0},
		{piles([]string{""}, 7), []int{0}, []impl.Round{round(-1, 0)}, 0},
		{piles([]string{"a"}, 99), []int{0}, []impl.Round{round(-1, 99)}, 0},
		{piles([]string{"", "a"}, 99, 1), []int{0}, []impl.Round{round(-1, 1)}, 0},
	})
}

func TestRunoffOfInvalidPiles(t *testing.T) {
	for _, list := range invalidPiles() {
		for n := 1; n <= 5; n++ {
			checkNoRunoff(t, list, ordersOf(n)[0])
			checkNoRunoff(t, list, ordersOf(n)[factorial(n)-1])
		}
		checkNoRunoff(t, list, nil)
		checkNoRunoff(t, list, []int{0, 0})
	}
}

func TestRunoffOfInvalidLots(t *testing.T) {
	refused := 0
	for _, list := range [][]impl.Pile{nil, piles([]string{""}, 1), piles([]string{"a"}, 1), piles([]string{"a", "b"}, 2, 1), piles([]string{"abcde", "edcba"}, 99), piles(ballotTexts()[:12], 1)} {
		for _, lots := range append(listsOf(-1, 5, 4), invalidLots()...) {
			if !areLots(lots) {
				checkNoRunoff(t, list, lots)
				refused++
			}
		}
	}
	if refused < 1000 {
		t.Errorf("only %d lots are invalid", refused)
	}
}

func TestRunoffOfTooFewLots(t *testing.T) {
	for n := 1; n <= 4; n++ {
		for _, text := range ballotTexts() {
			list := piles([]string{text}, 2)
			if !doFit(list, n) {
				checkNoRunoff(t, list, ordersOf(n)[0])
				checkNoRunoff(t, append(piles([]string{""}, 99), list...), ordersOf(n)[factorial(n)-1])
			}
		}
	}
	// One ballot behind a majority is enough, even if it would never be counted for this candidate.
	checkNoRunoff(t, piles([]string{"a", "b", "bc"}, 99, 1), []int{1, 0})
	checkNoRunoff(t, piles([]string{"a", "abcde"}, 99, 1), []int{3, 2, 1, 0})
}

func TestRunoffOfAllNumbersOfLots(t *testing.T) {
	won, refused := 0, 0
	for _, list := range manyPiles() {
		for n := 1; n <= 5; n++ {
			lots := ordersOf(n)[len(list)%factorial(n)]
			if doFit(list, n) {
				mustRunOff(t, list, lots)
				won++
			} else {
				checkNoRunoff(t, list, lots)
				refused++
			}
		}
	}
	if won < 100 || refused < 100 {
		t.Errorf("%d runoffs have a winner, and %d have none", won, refused)
	}
}

func TestRunoffOfAllNumbersOfRounds(t *testing.T) {
	numbers := map[[2]int]int{}
	eachRunoff(func(list []impl.Pile, lots []int) {
		rounds, _ := mustRunOff(t, list, lots)
		numbers[[2]int{len(lots), len(rounds)}]++
	})
	for n := 1; n <= 5; n++ {
		for many := range 7 {
			if got := numbers[[2]int{n, many}]; (many >= 1 && many <= n) != (got > 10) {
				t.Errorf("%d runoffs of %d candidates have %d rounds", got, n, many)
			}
		}
	}
}

func TestPromise45ADifferentCandidateLeaves(t *testing.T) {
	passed := 0
	eachRunoff(func(list []impl.Pile, lots []int) {
		rounds, ok := impl.RunoffRounds(list, lots)
		if !ok || len(rounds) < 1 || len(rounds) > len(lots) {
			t.Fatalf("RunoffRounds(%v, %v) returned %v, %v", list, lots, rounds, ok)
		}
		left := make([]bool, len(lots))
		for i, r := range rounds {
			if counts, fine := impl.FirstCounts(list, left); !fine || !slices.Equal(r.Counts, counts) {
				t.Fatalf("round %d of %v with lots %v is %v, but the counts are %v", i, list, lots, r, counts)
			}
			if i == len(rounds)-1 {
				if r.Out != -1 {
					t.Fatalf("the last round of %v with lots %v is %v", list, lots, r)
				}
				break
			}
			if r.Out < 0 || r.Out >= len(lots) || left[r.Out] {
				t.Fatalf("round %d of %v with lots %v is %v, and %v have left", i, list, lots, r, left)
			}
			left[r.Out] = true
			passed++
		}
	})
	if passed < 1000 {
		t.Errorf("only %d candidates have left", passed)
	}
}

func TestPromise46TheLeastCountWithTheLastLotLeaves(t *testing.T) {
	decided, clear := 0, 0
	eachRunoff(func(list []impl.Pile, lots []int) {
		rounds, _ := mustRunOff(t, list, lots)
		left := leftBefore(rounds)
		for i, r := range rounds[:len(rounds)-1] {
			equals := 0
			for c, many := range r.Counts {
				if left[i][c] || c == r.Out {
					continue
				}
				if many < r.Counts[r.Out] {
					t.Fatalf("%d leaves in round %d of %v with lots %v, though %d has less", r.Out, i, list, lots, c)
				}
				if many == r.Counts[r.Out] {
					equals++
					if slices.Index(lots, c) > slices.Index(lots, r.Out) {
						t.Fatalf("%d leaves in round %d of %v with lots %v, though %d has a later lot", r.Out, i, list, lots, c)
					}
				}
			}
			if equals > 0 {
				decided++
			} else {
				clear++
			}
		}
	})
	if decided < 1000 || clear < 1000 {
		t.Errorf("%d rounds were decided by lots, and %d by counts", decided, clear)
	}
}

func TestPromise46EachLotDecides(t *testing.T) {
	for n := 3; n <= 5; n++ {
		for _, least := range masksOf(n) {
			if !slices.Contains(least, true) {
				continue
			}
			// All of the least have two ballots, and all others three.
			list := []impl.Pile{}
			for c, one := range least {
				many := 3
				if one {
					many = 2
				}
				list = append(list, impl.Pile{Text: letters[c : c+1], Many: many})
			}
			for _, lots := range ordersOf(n) {
				want := -1
				for _, c := range lots {
					if least[c] {
						want = c
					}
				}
				if rounds, _ := mustRunOff(t, list, lots); rounds[0].Out != want {
					t.Fatalf("%d leaves in the first round of %v with lots %v", rounds[0].Out, list, lots)
				}
			}
		}
	}
}

func TestPromise47TheLastRound(t *testing.T) {
	alone, majority, half := 0, 0, 0
	eachRunoff(func(list []impl.Pile, lots []int) {
		rounds, _ := mustRunOff(t, list, lots)
		left := leftBefore(rounds)
		for i, r := range rounds {
			stay := 0
			for _, gone := range left[i] {
				if !gone {
					stay++
				}
			}
			most, sum := slices.Max(r.Counts), sumOfCounts(r.Counts)
			if last := stay == 1 || 2*most > sum; last != (i == len(rounds)-1) {
				t.Fatalf("round %d of %v with lots %v is %v, of %d rounds", i, list, lots, r, len(rounds))
			}
			switch {
			case stay == 1:
				alone++
			case 2*most > sum:
				majority++
			case 2*most == sum && sum > 0:
				half++
			}
		}
	})
	if alone < 1000 || majority < 1000 || half < 1000 {
		t.Errorf("one is left alone in %d rounds, and has a majority in %d, and exactly half in %d", alone, majority, half)
	}
}

func TestPromise47AtHalfOfAllCounts(t *testing.T) {
	for others := 2; others <= 99; others++ {
		for _, many := range []int{others - 1, others, others + 1} {
			if many > 99 {
				continue
			}
			// Ballots that name nobody are in no count.
			list := piles([]string{"", "a", "b", "c"}, 99, many, 1, others-1)
			rounds, winner := mustRunOff(t, list, []int{0, 2, 1})
			if first := len(rounds) == 1; first != (many > others) {
				t.Fatalf("RunoffRounds(%v) returned %v", list, rounds)
			}
			if (winner == 0) != (many >= others-1) {
				t.Fatalf("RunoffWinner(%v) returned %d", list, winner)
			}
		}
	}
}

func TestPromise48TheWinnerHasNotLeft(t *testing.T) {
	equal, other := 0, 0
	eachRunoff(func(list []impl.Pile, lots []int) {
		winner := impl.RunoffWinner(list, lots)
		rounds, ok := impl.RunoffRounds(list, lots)
		if !ok || winner < 0 || winner >= len(lots) {
			t.Fatalf("RunoffWinner(%v, %v) returned %d, and RunoffRounds %v, %v", list, lots, winner, rounds, ok)
		}
		last := rounds[len(rounds)-1].Counts
		for c, many := range last {
			if many > last[winner] {
				t.Fatalf("%d wins %v with lots %v, though %d has more in %v", winner, list, lots, c, last)
			}
			if many == last[winner] && c != winner {
				equal++
			}
		}
		for _, r := range rounds {
			if r.Out == winner {
				t.Fatalf("%d wins %v with lots %v, and has left: %v", winner, list, lots, rounds)
			}
		}
		if winner != impl.PluralityWinner(list, lots) {
			other++
		}
	})
	if equal < 100 || other < 100 {
		t.Errorf("%d others have as many in the last round, and %d winners are not those of plurality", equal, other)
	}
}

func TestPromise48SeveralGreatestCountsInTheLastRound(t *testing.T) {
	for _, list := range [][]impl.Pile{nil, {}, piles([]string{""}, 1), piles([]string{""}, 99)} {
		for _, lots := range allOrders() {
			// All counts are 0, and only the one with the first lot has not left.
			if rounds, winner := mustRunOff(t, list, lots); winner != lots[0] || len(rounds) != len(lots) || !slices.Equal(rounds[len(rounds)-1].Counts, make([]int, len(lots))) {
				t.Fatalf("the runoff of %v with lots %v has the rounds %v and the winner %d", list, lots, rounds, winner)
			}
		}
	}
}

func TestPromise49AMajorityOfFirstPreferences(t *testing.T) {
	majority, none := 0, 0
	eachRunoff(func(list []impl.Pile, lots []int) {
		first := impl.PluralityWinner(list, lots)
		counts := mustCount(t, list, make([]bool, len(lots)))
		rounds, ok := impl.RunoffRounds(list, lots)
		if 2*counts[first] <= sumOfCounts(counts) {
			if !ok || len(lots) > 1 && len(rounds) == 1 {
				t.Fatalf("RunoffRounds(%v, %v) returned %v, %v", list, lots, rounds, ok)
			}
			none++
			return
		}
		majority++
		if winner := impl.RunoffWinner(list, lots); !ok || winner != first || len(rounds) != 1 {
			t.Fatalf("%d wins %v with lots %v by plurality, and %d after %v", first, list, lots, winner, rounds)
		}
	})
	if majority < 1000 || none < 1000 {
		t.Errorf("%d runoffs have a majority of first preferences, and %d have none", majority, none)
	}
}

// turnedRounds returns rounds in which two candidates are exchanged.
func turnedRounds(rounds []impl.Round, x int, y int) []impl.Round {
	turned := clonedRounds(rounds)
	for i, r := range turned {
		r.Counts[x], r.Counts[y] = r.Counts[y], r.Counts[x]
		turned[i].Out = turnedNumber(r.Out, x, y)
	}
	return turned
}

func TestPromise50TheWinnerExchanged(t *testing.T) {
	changed, contests := 0, 0
	eachRunoff(func(list []impl.Pile, lots []int) {
		// All contests would take long, and a fifth of them still has all lots.
		if contests++; contests%5 != 0 {
			return
		}
		rounds, winner := mustRunOff(t, list, lots)
		for x := range lots {
			for y := range x + 1 {
				turned, ok := impl.PilesTurn(list, x, y)
				if !ok {
					t.Fatalf("PilesTurn(%v, %d, %d) failed", list, x, y)
				}
				others, got := mustRunOff(t, turned, turnedNumbers(lots, x, y))
				if got != turnedNumber(winner, x, y) || !sameRounds(others, turnedRounds(rounds, x, y)) {
					t.Fatalf("the winner of %v with lots %v is %d after %v, and with %d and %d exchanged %d after %v", list, lots, winner, rounds, x, y, got, others)
				}
				if got != winner {
					changed++
				}
			}
		}
	})
	if changed < 1000 {
		t.Errorf("only %d winners have been exchanged", changed)
	}
}

// otherRounds returns rounds that each differ from some in one way.
func otherRounds(rounds []impl.Round) [][]impl.Round {
	last := rounds[len(rounds)-1]
	n := len(last.Counts)
	others := [][]impl.Round{
		// There are too few, or too many.
		nil, rounds[:len(rounds)-1], rounds[1:],
		append(clonedRounds(rounds), last), append(clonedRounds(rounds), round(-1, make([]int, n)...)), append(clonedRounds(rounds), impl.Round{}),
		append([]impl.Round{rounds[0]}, rounds...), append(clonedRounds(rounds), rounds...), slices.Repeat([]impl.Round{last}, 1000),
	}
	// differ adds rounds of which one was changed.
	differ := func(i int, change func(r *impl.Round)) {
		changed := clonedRounds(rounds)
		change(&changed[i])
		others = append(others, changed)
	}
	for i, r := range rounds {
		for c := range n {
			differ(i, func(r *impl.Round) { r.Counts[c]++ })
			differ(i, func(r *impl.Round) { r.Counts[c]-- })
			differ(i, func(r *impl.Round) { r.Counts[c] = math.MinInt })
			if r.Counts[c] != r.Counts[0] {
				differ(i, func(r *impl.Round) { r.Counts[c], r.Counts[0] = r.Counts[0], r.Counts[c] })
			}
		}
		for _, out := range append([]int{-1, 0, 1, 2, 3, 4, 5, n}, oddNumbers...) {
			if out != r.Out {
				differ(i, func(r *impl.Round) { r.Out = out })
			}
		}
		differ(i, func(r *impl.Round) { r.Counts = nil })
		differ(i, func(r *impl.Round) { r.Counts = r.Counts[:n-1] })
		differ(i, func(r *impl.Round) { r.Counts = append(r.Counts, 0) })
	}
	return others
}

func TestPromise51RoundsOfTheRunoffOnly(t *testing.T) {
	contests := 0
	eachRunoff(func(list []impl.Pile, lots []int) {
		rounds, ok := impl.RunoffRounds(list, lots)
		if !ok || !impl.RunoffCheck(list, lots, rounds) || !impl.RunoffCheck(list, lots, clonedRounds(rounds)) {
			t.Fatalf("RunoffCheck(%v, %v, %v) is false", list, lots, rounds)
		}
		// All contests would take long.
		if contests++; contests%23 != 0 {
			return
		}
		for _, others := range otherRounds(rounds) {
			if impl.RunoffCheck(list, lots, others) {
				t.Fatalf("RunoffCheck(%v, %v, %.200v) is true, but the rounds are %v", list, lots, others, rounds)
			}
		}
	})
}

func TestPromise51RoundsOfOtherRunoffs(t *testing.T) {
	list := piles([]string{"a", "bc", "cb"}, 3, 2, 2)
	for _, lots := range ordersOf(3) {
		rounds, _ := mustRunOff(t, list, lots)
		for _, others := range ordersOf(3) {
			for _, more := range [][]impl.Pile{list, piles([]string{"a", "bc", "cb"}, 3, 2, 3), piles([]string{"a", "b", "cb"}, 3, 2, 2)} {
				due, _ := mustRunOff(t, more, others)
				if got := impl.RunoffCheck(more, others, rounds); got != sameRounds(rounds, due) {
					t.Errorf("RunoffCheck(%v, %v, %v) is %v", more, others, rounds, got)
				}
			}
		}
	}
	// There is a further candidate, or one less.
	rounds, _ := mustRunOff(t, list, []int{0, 1, 2})
	if impl.RunoffCheck(list, []int{0, 1, 2, 3}, rounds) || impl.RunoffCheck(list, []int{0, 1}, rounds) || impl.RunoffCheck(list, nil, rounds) || impl.RunoffCheck(list, []int{0, 1, 1}, rounds) || impl.RunoffCheck(piles([]string{"a", "bc", "cb", "cb"}, 3, 2, 1), []int{0, 1, 2}, rounds) {
		t.Error("RunoffCheck is true for rounds of another runoff")
	}
}

// checkFurtherEmptyBallot reports whether there is room for a ballot that names nobody, which must not change the runoff.
func checkFurtherEmptyBallot(t *testing.T, list []impl.Pile, lots []int) bool {
	t.Helper()
	rounds, winner := mustRunOff(t, list, lots)
	more, ok := impl.PilesAdd(list, "", 1)
	if !ok {
		return false
	}
	if again, same := mustRunOff(t, more, lots); same != winner || !sameRounds(again, rounds) {
		t.Fatalf("the winner of %v with lots %v is %d after %v, and with a further ballot %d after %v", list, lots, winner, rounds, same, again)
	}
	return true
}

func TestPromise52AFurtherBallotThatNamesNobody(t *testing.T) {
	room, full := 0, 0
	eachRunoff(func(list []impl.Pile, lots []int) {
		if checkFurtherEmptyBallot(t, list, lots) {
			room++
		} else {
			full++
		}
	})
	if room < 1000 || full < 100 {
		t.Errorf("there was room in %d runoffs, and none in %d", room, full)
	}
}

func TestPromise52UpToAFullPile(t *testing.T) {
	for _, named := range [][]impl.Pile{nil, piles([]string{"a"}, 1), piles([]string{"a", "b", "ca"}, 3, 2, 2), piles([]string{"a", "b", "c", "d", "e"}, 99)} {
		for _, lots := range [][]int{{0, 1, 2, 3, 4}, {4, 2, 3, 0, 1}} {
			list := slices.Clone(named)
			for many := 0; many <= 99; many++ {
				// A hundredth ballot has no room in its pile.
				if ok := checkFurtherEmptyBallot(t, list, lots); ok != (many < 99) {
					t.Fatalf("there is room for ballot %d in %v: %v", many+1, list, ok)
				}
				list, _ = impl.PilesAdd(list, "", 1)
			}
		}
	}
}

func TestPromise52TheLastPile(t *testing.T) {
	texts := []string{"a", "ab", "abc", "ac", "acb", "b", "ba", "bc", "bca", "c", "ca", "cb"}
	for _, lots := range ordersOf(3) {
		for _, numbers := range [][]int{{1}, {99}, {2, 3, 1}, {1, 1, 5, 2}} {
			// There are twelve piles already, none of them of ballots that name nobody.
			if checkFurtherEmptyBallot(t, piles(texts, numbers...), lots) {
				t.Fatal("there are 13 piles")
			}
			// The further ballot is the last pile that there can be.
			if !checkFurtherEmptyBallot(t, piles(texts[1:], numbers...), lots) {
				t.Fatal("there is no room for a pile 12")
			}
			// It has a pile already, which has room for one ballot, or for none.
			for _, many := range []int{1, 98, 99} {
				list := append(piles([]string{""}, many), piles(texts[1:], numbers...)...)
				if ok := checkFurtherEmptyBallot(t, list, lots); ok != (many < 99) {
					t.Fatalf("there is room for a ballot in %v: %v", list, ok)
				}
			}
		}
	}
}

func TestRunoffArgumentsAreNotChanged(t *testing.T) {
	for _, list := range append(append(manyPiles(), invalidPiles()...), nil) {
		for n, lots := range [][]int{{}, {0}, {1, 0}, {2, 0, 1}, {3, 1, 0, 2}, {3, 1, 0, 2, 4}, {3, 1, 0, 2, 4, 5}} {
			// What is in the spare capacity belongs to the caller, too.
			first := append(slices.Clone(list), sparePiles...)
			order := append(slices.Clone(lots), 41, 42)
			numbers := slices.Clone(order)
			rounds, _, _ := ranRunoff(list, order[:n])
			kept := append(clonedRounds(rounds), round(7, 41, 42))
			given := clonedRounds(kept)
			impl.RunoffRounds(first[:len(list)], numbers[:n])
			impl.RunoffWinner(first[:len(list)], numbers[:n])
			impl.RunoffCheck(first[:len(list)], numbers[:n], given[:len(rounds)])
			impl.RunoffCheck(first[:len(list)], numbers[:n], given)
			if !slices.Equal(first, append(slices.Clone(list), sparePiles...)) || !slices.Equal(numbers, order) || !sameRounds(given, kept) {
				t.Fatalf("%.100v, %v and %v have become %.100v, %v and %v", list, order, kept, first, numbers, given)
			}
		}
	}
}

func TestRunoffRoundsShareNoMemory(t *testing.T) {
	eachRunoff(func(list []impl.Pile, lots []int) {
		ownList, ownLots := slices.Clone(list), slices.Clone(lots)
		first, _ := mustRunOff(t, ownList, ownLots)
		second, _ := mustRunOff(t, ownList, ownLots)
		kept := clonedRounds(second)
		for i := range first {
			// All other rounds stay as they are when one of them is changed.
			for k := range first[i].Counts[:cap(first[i].Counts)] {
				first[i].Counts[:cap(first[i].Counts)][k] = -7
			}
			if !sameRounds(first[i+1:], kept[i+1:]) {
				t.Fatalf("the rounds of %v behind %d have become %v", list, i, first)
			}
		}
		for i := range first[:cap(first)] {
			first[:cap(first)][i] = impl.Round{Out: -7}
		}
		if !slices.Equal(ownList, list) || !slices.Equal(ownLots, lots) {
			t.Fatalf("%v and %v have become %v and %v", list, lots, ownList, ownLots)
		}
		// Nothing reads the arguments any more.
		for i := range ownList {
			ownList[i] = impl.Pile{Text: "?", Many: -7}
		}
		for i := range ownLots {
			ownLots[i] = -7
		}
		if !sameRounds(second, kept) {
			t.Fatalf("the rounds of %v were %v, and have become %v", list, kept, second)
		}
	})
}

func TestRunoffIsTheSameAtTheSameTime(t *testing.T) {
	list := piles([]string{"", "ab", "ba", "bac", "c", "cab", "cda", "dc", "dea", "e", "ead", "edc"}, 9, 8, 7, 6, 5)
	lots := []int{4, 3, 2, 1, 0}
	want, winner := mustRunOff(t, list, lots)
	var callers sync.WaitGroup
	for range 8 {
		callers.Go(func() {
			for range 200 {
				if rounds, ok := impl.RunoffRounds(list, lots); !ok || !sameRounds(rounds, want) {
					t.Errorf("RunoffRounds was %v, then %v", want, rounds)
				}
				if impl.RunoffWinner(list, lots) != winner || !impl.RunoffCheck(list, lots, want) || impl.RunoffCheck(list, lots, want[1:]) {
					t.Error("the winner has changed, or what RunoffCheck tells of the rounds")
				}
			}
		})
	}
	callers.Wait()
}
