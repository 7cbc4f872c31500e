package tests

import (
	"math"
	"math/big"
	"slices"
	"strings"
	"sync"
	"testing"

	"loop.example/tallyaudit/impl"
)

// badSeats are never a number of seats.
var badSeats = []int{math.MinInt, math.MinInt32, -256, -61, -3, -2, -1, 0, 3, 4, 5, 6, 60, 99, 256, math.MaxInt32, math.MaxInt - 1, math.MaxInt}

// badTotals are never the number of ballots of a transfer.
var badTotals = []int{math.MinInt, math.MinInt + 1, math.MinInt32, -256, -61, -60, -3, -2, -1, 61, 62, 99, 120, 256, 1188, math.MaxInt32, math.MaxInt - 1, math.MaxInt}

// whole returns whole numbers as fractions.
func whole(numbers ...int) []impl.Frac {
	counts := []impl.Frac{}
	for _, number := range numbers {
		counts = append(counts, frac(number, 1))
	}
	return counts
}

// in returns a step in which a candidate gets a seat.
func in(who int, counts ...impl.Frac) impl.Step {
	return impl.Step{Counts: counts, Who: who, Kind: impl.StepIn}
}

// out returns a step in which a candidate leaves.
func out(who int, counts ...impl.Frac) impl.Step {
	return impl.Step{Counts: counts, Who: who, Kind: impl.StepOut}
}

// rest returns a step in which a candidate gets a seat that is left.
func rest(who int, counts ...impl.Frac) impl.Step {
	return impl.Step{Counts: counts, Who: who, Kind: impl.StepRest}
}

// sameSteps reports whether steps are the same, one by one.
func sameSteps(a []impl.Step, b []impl.Step) bool {
	return slices.EqualFunc(a, b, func(s impl.Step, r impl.Step) bool {
		return s.Who == r.Who && s.Kind == r.Kind && slices.Equal(s.Counts, r.Counts)
	})
}

// clonedSteps returns steps that share no memory with others.
func clonedSteps(steps []impl.Step) []impl.Step {
	cloned := []impl.Step{}
	for _, s := range steps {
		cloned = append(cloned, impl.Step{Counts: slices.Clone(s.Counts), Who: s.Who, Kind: s.Kind})
	}
	return cloned
}

// leastQuota returns the least whole number that is more than the ballots divided by one more than the seats.
func leastQuota(total int, seats int) int {
	quota := 1
	for quota*(seats+1) <= total {
		quota++
	}
	return quota
}

// sumsOfFirst returns, for each of n candidates, the sum of the weights of the ballots that begin with this one.
func sumsOfFirst(texts []string, weights []*big.Rat, n int) []*big.Rat {
	sums := []*big.Rat{}
	for c := range n {
		sum := new(big.Rat)
		for i, text := range texts {
			if strings.HasPrefix(text, letters[c:c+1]) {
				sum.Add(sum, weights[i])
			}
		}
		sums = append(sums, sum)
	}
	return sums
}

// transferred is what the document says of TransferSteps, in other words: each single ballot has a weight, and the letters of those who are gone are taken out of the texts.
func transferred(list []impl.Pile, lots []int, seats int) ([]impl.Step, bool) {
	if !areLots(lots) || !doFit(list, len(lots)) || totalOf(list) > 60 || seats < 1 || seats > min(2, len(lots)) {
		return nil, false
	}
	texts, weights := textsIn(list), []*big.Rat{}
	for range texts {
		weights = append(weights, big.NewRat(1, 1))
	}
	quota := big.NewRat(int64(leastQuota(len(texts), seats)), 1)
	stay, steps := slices.Clone(lots), []impl.Step{}
	for seats > 0 {
		sums := sumsOfFirst(texts, weights, len(lots))
		more := func(x int, y int) int { return sums[x].Cmp(sums[y]) }
		back := slices.Clone(stay)
		slices.Reverse(back)
		// The first one of several ones is found.
		s := impl.Step{Who: slices.MaxFunc(stay, more), Kind: impl.StepIn}
		if sums[s.Who].Cmp(quota) < 0 {
			s.Kind = impl.StepRest
			if len(stay) > seats {
				s.Kind, s.Who = impl.StepOut, slices.MinFunc(back, more)
			}
		}
		letter := letters[s.Who : s.Who+1]
		for i, text := range texts {
			if s.Kind == impl.StepIn && strings.HasPrefix(text, letter) {
				weights[i].Mul(weights[i], new(big.Rat).Quo(new(big.Rat).Sub(sums[s.Who], quota), sums[s.Who]))
			}
			texts[i] = strings.ReplaceAll(text, letter, "")
		}
		for _, sum := range sums {
			count, ok := fracOfRatio(sum)
			if !ok {
				return nil, false
			}
			s.Counts = append(s.Counts, count)
		}
		if s.Kind != impl.StepOut {
			seats--
		}
		steps = append(steps, s)
		stay = slices.DeleteFunc(stay, func(c int) bool { return c == s.Who })
	}
	return steps, true
}

// seated returns who gets seats in steps.
func seated(steps []impl.Step) []int {
	who := []int{}
	for _, s := range steps {
		if s.Kind == impl.StepIn || s.Kind == impl.StepRest {
			who = append(who, s.Who)
		}
	}
	return who
}

// checkTransfer checks all three functions for a transfer whose steps are known.
func checkTransfer(t *testing.T, list []impl.Pile, lots []int, seats int, want []impl.Step) {
	t.Helper()
	if steps, ok := impl.TransferSteps(list, lots, seats); !ok || !sameSteps(steps, want) {
		t.Fatalf("TransferSteps(%v, %v, %d) returned %v, %v, not %v", list, lots, seats, steps, ok, want)
	}
	if winners := impl.TransferWinners(list, lots, seats); !slices.Equal(winners, seated(want)) {
		t.Fatalf("TransferWinners(%v, %v, %d) returned %v after %v", list, lots, seats, winners, want)
	}
	if !impl.TransferCheck(list, lots, seats, want) {
		t.Fatalf("TransferCheck(%v, %v, %d, %v) is false", list, lots, seats, want)
	}
}

// mustTransfer returns the steps of a transfer, which must be those that are due, and exist.
func mustTransfer(t *testing.T, list []impl.Pile, lots []int, seats int) []impl.Step {
	t.Helper()
	want, ok := transferred(list, lots, seats)
	if !ok {
		t.Fatalf("%v with lots %v and %d seats is no transfer", list, lots, seats)
	}
	checkTransfer(t, list, lots, seats, want)
	return want
}

// stepsOf returns the steps and the winners of valid arguments, without a look at what is due.
func stepsOf(t *testing.T, list []impl.Pile, lots []int, seats int) ([]impl.Step, []int) {
	t.Helper()
	steps, ok := impl.TransferSteps(list, lots, seats)
	winners := impl.TransferWinners(list, lots, seats)
	if !ok || len(steps) == 0 {
		t.Fatalf("TransferSteps(%v, %v, %d) returned %v, %v", list, lots, seats, steps, ok)
	}
	for _, s := range steps {
		if s.Who < 0 || s.Who >= len(lots) || s.Kind < 1 || s.Kind > 3 || len(s.Counts) != len(lots) || slices.ContainsFunc(s.Counts, func(f impl.Frac) bool { return !isFrac(f) || f.Num < 0 }) {
			t.Fatalf("TransferSteps(%v, %v, %d) returned %v", list, lots, seats, steps)
		}
	}
	return steps, winners
}

// checkNoTransfer tells if there are steps, or winners, or steps that hold.
func checkNoTransfer(t *testing.T, list []impl.Pile, lots []int, seats int) {
	t.Helper()
	if steps, ok := impl.TransferSteps(list, lots, seats); ok || len(steps) != 0 {
		t.Fatalf("TransferSteps(%.200v, %.100v, %d) returned %v, %v", list, lots, seats, steps, ok)
	}
	if winners := impl.TransferWinners(list, lots, seats); len(winners) != 0 {
		t.Fatalf("TransferWinners(%.200v, %.100v, %d) returned %v", list, lots, seats, winners)
	}
	none := make([]impl.Frac, len(lots))
	for _, steps := range [][]impl.Step{
		nil, {}, {{}}, {rest(0)}, {in(0)}, {rest(0, whole(0)...)}, {in(0, whole(1)...)}, {rest(-1, whole(0)...)},
		{rest(0, whole(0, 0)...), rest(1, whole(0, 0)...)}, {out(1, whole(0, 0)...), rest(0, whole(0, 0)...)}, {in(0, none...)}, {rest(0, none...)},
	} {
		if impl.TransferCheck(list, lots, seats, steps) {
			t.Fatalf("TransferCheck(%.200v, %.100v, %d, %v) is true", list, lots, seats, steps)
		}
	}
}

// goneBefore tells who is not there any more in each step.
func goneBefore(steps []impl.Step) [][]bool {
	gone := make([]bool, len(steps[0].Counts))
	all := [][]bool{}
	for _, s := range steps {
		all = append(all, slices.Clone(gone))
		gone[s.Who] = true
	}
	return all
}

// thereIn returns how many candidates are still there.
func thereIn(gone []bool) int {
	there := 0
	for _, one := range gone {
		if !one {
			there++
		}
	}
	return there
}

// numbers is a sequence of numbers that look as if they had no order, but are always the same.
type numbers uint64

// below returns a number from 0 to n-1.
func (s *numbers) below(n int) int {
	*s = *s*6364136223846793005 + 1442695040888963407
	return int(*s>>33) % n
}

// pilesOfTransfers returns piles for n candidates with at most 60 ballots, of all numbers of piles, some of them with many ballots for a few texts.
func pilesOfTransfers(n int) [][]impl.Pile {
	next, texts := numbers(n), textsFor(n)
	lists := [][]impl.Pile{}
	for k := range 600 {
		some := []string{}
		for range 1 + next.below(12) {
			some = append(some, texts[next.below(len(texts))])
		}
		ballots := []string{}
		for range []int{60, 6, 15, 59, 27, 9}[k%6] - next.below(6) {
			ballots = append(ballots, some[min(next.below(len(some)), next.below(len(some)))])
		}
		lists = append(lists, piled(ballots))
	}
	return lists
}

// pilesAtQuotas returns piles for n candidates in which one candidate has about the quota of first preferences, and others have the quota only together with what is more.
func pilesAtQuotas(n int) [][]impl.Pile {
	lists := [][]impl.Pile{}
	for _, total := range []int{1, 2, 3, 5, 6, 7, 11, 12, 30, 59, 60} {
		for seats := 1; seats <= min(2, n); seats++ {
			quota := leastQuota(total, seats)
			for many := max(quota-1, 0); many <= min(quota+2, total); many++ {
				for c := range n {
					first, second := letters[c:c+1], letters[(c+1)%n:(c+1)%n+1]
					if n == 1 {
						second = ""
					}
					for _, part := range []int{0, 1, many} {
						ballots := append(slices.Repeat([]string{first + second}, many), slices.Repeat([]string{first}, min(part, total-many))...)
						for i := len(ballots); i < total; i++ {
							ballots = append(ballots, []string{second, letters[i%n : i%n+1], ""}[(i+part)%3])
						}
						lists = append(lists, piled(ballots))
					}
				}
			}
		}
	}
	return lists
}

// eachTransfer calls a check with many piles of at most 60 ballots, many lots and all numbers of seats.
func eachTransfer(check func(list []impl.Pile, lots []int, seats int)) {
	for n := 1; n <= 5; n++ {
		orders := ordersOf(n)
		lists := slices.Concat(pilesOfTransfers(n), pilesAtQuotas(n), pilesFor(n), pilesOfFirst(min(n, 3)), pilesOfRunoffs(n), [][]impl.Pile{nil, piles([]string{""}, 60)})
		lists = slices.DeleteFunc(lists, func(list []impl.Pile) bool { return totalOf(list) > 60 })
		for i, list := range lists {
			for k := range min(3, len(orders)) {
				for seats := 1; seats <= min(2, n); seats++ {
					check(list, orders[(7*i+k*(1+len(orders)/3))%len(orders)], seats)
				}
			}
		}
	}
}

// transferExample is a transfer whose steps were found by hand.
type transferExample struct {
	list  []impl.Pile
	lots  []int
	seats int
	steps []impl.Step
}

// checkTransfers checks examples of transfers with all three functions.
func checkTransfers(t *testing.T, examples []transferExample) {
	t.Helper()
	for _, e := range examples {
		checkTransfer(t, e.list, e.lots, e.seats, e.steps)
		// What is due is right, too.
		if due, ok := transferred(e.list, e.lots, e.seats); !ok || !sameSteps(due, e.steps) {
			t.Fatalf("the steps of %v with lots %v and %d seats are %v, %v, not %v", e.list, e.lots, e.seats, due, ok, e.steps)
		}
	}
}

func TestTransferConstants(t *testing.T) {
	if impl.TransferMax != 60 || impl.ChairMax != 2 {
		t.Errorf("TransferMax is %d, and ChairMax %d", impl.TransferMax, impl.ChairMax)
	}
	if impl.StepIn != 1 || impl.StepOut != 2 || impl.StepRest != 3 {
		t.Errorf("the kinds of steps are %d, %d and %d", impl.StepIn, impl.StepOut, impl.StepRest)
	}
}

func TestTransferQuotaExamples(t *testing.T) {
	for _, e := range []struct{ total, seats, want int }{
		{0, 1, 1}, {1, 1, 1}, {2, 1, 2}, {3, 1, 2}, {4, 1, 3}, {9, 1, 5}, {10, 1, 6}, {58, 1, 30}, {59, 1, 30}, {60, 1, 31},
		{0, 2, 1}, {1, 2, 1}, {2, 2, 1}, {3, 2, 2}, {4, 2, 2}, {5, 2, 2}, {6, 2, 3}, {7, 2, 3}, {11, 2, 4}, {12, 2, 5}, {59, 2, 20}, {60, 2, 21},
		{61, 1, -1}, {61, 2, -1}, {-1, 1, -1}, {-1, 2, -1}, {-2, 1, -1}, {10, 0, -1}, {10, 3, -1}, {10, -1, -1}, {10, -2, -1}, {0, 0, -1}, {60, 3, -1}, {61, 3, -1}, {-1, 0, -1}, {-3, -4, -1},
	} {
		if got := impl.TransferQuota(e.total, e.seats); got != e.want {
			t.Errorf("TransferQuota(%d, %d) returned %d, not %d", e.total, e.seats, got, e.want)
		}
	}
}

func TestTransferExamplesOfWeights(t *testing.T) {
	ones := piles([]string{"ab", "ac", "b", "c"}, 3, 2, 1, 1)
	abc := piles([]string{"abc", "b", "c", "d"}, 8, 1, 3, 3)
	checkTransfers(t, []transferExample{
		{piles([]string{"ab", "b", "c"}, 8, 1, 3), []int{0, 1, 2}, 2, []impl.Step{in(0, whole(8, 1, 3)...), out(2, whole(0, 4, 3)...), rest(1, whole(0, 4, 0)...)}},
		{ones, []int{0, 1, 2}, 2, []impl.Step{in(0, whole(5, 1, 1)...), out(2, frac(0, 1), frac(11, 5), frac(9, 5)), rest(1, frac(0, 1), frac(11, 5), frac(0, 1))}},
		// The ballots of one who leaves pass over one who has a seat, with their weights.
		{abc, []int{0, 1, 2, 3}, 2, []impl.Step{in(0, whole(8, 1, 3, 3)...), out(3, whole(0, 3, 3, 3)...), out(2, whole(0, 3, 3, 0)...), rest(1, whole(0, 3, 0, 0)...)}},
		{abc, []int{3, 2, 1, 0}, 2, []impl.Step{in(0, whole(8, 1, 3, 3)...), out(1, whole(0, 3, 3, 3)...), out(3, whole(0, 0, 5, 3)...), rest(2, whole(0, 0, 5, 0)...)}},
		// With the weights of others, a count is exactly the quota, or a third below it.
		{piles([]string{"ab", "b", "c"}, 6, 2, 3), []int{2, 1, 0}, 2, []impl.Step{in(0, whole(6, 2, 3)...), in(1, whole(0, 4, 3)...)}},
		{piles([]string{"a", "ab", "b", "c"}, 1, 5, 2, 3), []int{2, 1, 0}, 2, []impl.Step{in(0, whole(6, 2, 3)...), out(2, frac(0, 1), frac(11, 3), frac(3, 1)), rest(1, frac(0, 1), frac(11, 3), frac(0, 1))}},
		// A count is the quota from the beginning: nothing is left of its ballots.
		{piles([]string{"ab", "b", "c"}, 3, 2, 2), []int{0, 1, 2}, 2, []impl.Step{in(0, whole(3, 2, 2)...), out(2, whole(0, 2, 2)...), rest(1, whole(0, 2, 0)...)}},
		{piles([]string{"ab", "b", "c"}, 3, 2, 2), []int{2, 1, 0}, 2, []impl.Step{in(0, whole(3, 2, 2)...), out(1, whole(0, 2, 2)...), rest(2, whole(0, 0, 2)...)}},
		// It is one below the quota.
		{piles([]string{"ab", "b", "c", "cb"}, 2, 1, 2, 1), []int{0, 1, 2}, 2, []impl.Step{in(2, whole(2, 1, 3)...), out(1, whole(2, 1, 0)...), rest(0, whole(2, 0, 0)...)}},
		{piles([]string{"ab", "ba", "c", "d"}, 1, 1, 2, 2), []int{0, 1, 2, 3}, 2, []impl.Step{out(1, whole(1, 1, 2, 2)...), out(3, whole(2, 0, 2, 2)...), rest(0, whole(2, 0, 2, 0)...), rest(2, whole(0, 0, 2, 0)...)}},
		// There are as many ballots and candidates as there can be.
		{piles([]string{"abcde", "bacde", "cde", "dec", "edc"}, 25, 6, 10, 9, 10), []int{0, 1, 2, 3, 4}, 2, []impl.Step{in(0, whole(25, 6, 10, 9, 10)...), out(3, whole(0, 10, 10, 9, 10)...), out(2, whole(0, 10, 10, 0, 19)...), in(4, whole(0, 10, 0, 0, 29)...)}},
		{piles([]string{"ab", "ac", "b"}, 58, 1, 1), []int{0, 1, 2}, 2, []impl.Step{in(0, whole(59, 1, 0)...), in(1, frac(0, 1), frac(2263, 59), frac(38, 59))}},
		{piles([]string{"abcde"}, 60), []int{4, 3, 2, 1, 0}, 2, []impl.Step{in(0, whole(60, 0, 0, 0, 0)...), in(1, whole(0, 39, 0, 0, 0)...)}},
	})
}

func TestTransferExamplesOfEqualCounts(t *testing.T) {
	equal := piles([]string{"a", "b", "c"}, 3, 3, 1)
	solid := piles([]string{"ab", "ba", "c", "d"}, 2, 2, 3, 3)
	checkTransfers(t, []transferExample{
		// Several have the greatest count: the one with the first lot gets a seat.
		{equal, []int{1, 0, 2}, 2, []impl.Step{in(1, whole(3, 3, 1)...), in(0, whole(3, 0, 1)...)}},
		{equal, []int{2, 0, 1}, 2, []impl.Step{in(0, whole(3, 3, 1)...), in(1, whole(0, 3, 1)...)}},
		{piles([]string{"", "ab", "ba"}, 4, 1, 1), []int{1, 0}, 2, []impl.Step{rest(1, whole(1, 1)...), rest(0, whole(2, 0)...)}},
		{piles([]string{"", "ab", "ba"}, 4, 1, 1), []int{0, 1}, 2, []impl.Step{rest(0, whole(1, 1)...), rest(1, whole(0, 2)...)}},
		// Several have the least count: the one with the last lot leaves.
		{piles([]string{"a", "b"}, 4), []int{1, 0}, 1, []impl.Step{out(0, whole(4, 4)...), rest(1, whole(0, 4)...)}},
		{piles([]string{"a", "b"}, 4), []int{0, 1}, 1, []impl.Step{out(1, whole(4, 4)...), rest(0, whole(4, 0)...)}},
		{piles([]string{"a", "ba", "cb"}, 3, 2, 2), []int{2, 0, 1}, 1, []impl.Step{out(1, whole(3, 2, 2)...), in(0, whole(5, 0, 2)...)}},
		{piles([]string{"a", "ba", "cb"}, 3, 2, 2), []int{1, 2, 0}, 1, []impl.Step{out(2, whole(3, 2, 2)...), in(1, whole(3, 4, 0)...)}},
		// Two are ahead of all others on a quota of ballots, in both orders.
		{solid, []int{0, 1, 2, 3}, 2, []impl.Step{out(1, whole(2, 2, 3, 3)...), in(0, whole(4, 0, 3, 3)...), out(3, whole(0, 0, 3, 3)...), rest(2, whole(0, 0, 3, 0)...)}},
		{solid, []int{1, 3, 0, 2}, 2, []impl.Step{out(0, whole(2, 2, 3, 3)...), in(1, whole(0, 4, 3, 3)...), out(2, whole(0, 0, 3, 3)...), rest(3, whole(0, 0, 0, 3)...)}},
	})
}

func TestTransferExamplesOfOneSeat(t *testing.T) {
	checkTransfers(t, []transferExample{
		{piles([]string{"a", "b", "c"}, 5, 2, 2), []int{2, 1, 0}, 1, []impl.Step{in(0, whole(5, 2, 2)...)}},
		{piles([]string{"a", "bc", "cb"}, 4, 3, 2), []int{0, 1, 2}, 1, []impl.Step{out(2, whole(4, 3, 2)...), in(1, whole(4, 5, 0)...)}},
		// Nobody has a majority of all ballots: these end, or name nobody.
		{piles([]string{"a", "b", "c"}, 4, 3, 2), []int{0, 1, 2}, 1, []impl.Step{out(2, whole(4, 3, 2)...), out(1, whole(4, 3, 0)...), rest(0, whole(4, 0, 0)...)}},
		{piles([]string{"", "a", "b"}, 5, 3, 2), []int{1, 0}, 1, []impl.Step{out(1, whole(3, 2)...), rest(0, whole(3, 0)...)}},
		{piles([]string{"", "a"}, 30), []int{0, 1, 2, 3, 4}, 1, []impl.Step{out(4, whole(30, 0, 0, 0, 0)...), out(3, whole(30, 0, 0, 0, 0)...), out(2, whole(30, 0, 0, 0, 0)...), out(1, whole(30, 0, 0, 0, 0)...), rest(0, whole(30, 0, 0, 0, 0)...)}},
		{piles([]string{"", "e"}, 29, 31), []int{0, 1, 2, 3, 4}, 1, []impl.Step{in(4, whole(0, 0, 0, 0, 31)...)}},
		// There is one candidate alone.
		{nil, []int{0}, 1, []impl.Step{rest(0, whole(0)...)}},
		{piles([]string{""}, 60), []int{0}, 1, []impl.Step{rest(0, whole(0)...)}},
		{piles([]string{"a"}, 1), []int{0}, 1, []impl.Step{in(0, whole(1)...)}},
		{piles([]string{"a"}, 60), []int{0}, 1, []impl.Step{in(0, whole(60)...)}},
		{piles([]string{"", "a"}, 1, 1), []int{0}, 1, []impl.Step{rest(0, whole(1)...)}},
		{piles([]string{"", "a"}, 1, 2), []int{0}, 1, []impl.Step{in(0, whole(2)...)}},
	})
}

func TestTransferExamplesOfSeatsThatAreLeft(t *testing.T) {
	checkTransfers(t, []transferExample{
		// There are no piles at all.
		{nil, []int{2, 0, 1}, 1, []impl.Step{out(1, whole(0, 0, 0)...), out(0, whole(0, 0, 0)...), rest(2, whole(0, 0, 0)...)}},
		{[]impl.Pile{}, []int{2, 0, 1}, 2, []impl.Step{out(1, whole(0, 0, 0)...), rest(2, whole(0, 0, 0)...), rest(0, whole(0, 0, 0)...)}},
		{nil, []int{1, 0}, 2, []impl.Step{rest(1, whole(0, 0)...), rest(0, whole(0, 0)...)}},
		{nil, []int{0, 1}, 1, []impl.Step{out(1, whole(0, 0)...), rest(0, whole(0, 0)...)}},
		{piles([]string{""}, 7), []int{3, 1, 4, 2, 0}, 2, []impl.Step{out(0, whole(0, 0, 0, 0, 0)...), out(2, whole(0, 0, 0, 0, 0)...), out(4, whole(0, 0, 0, 0, 0)...), rest(3, whole(0, 0, 0, 0, 0)...), rest(1, whole(0, 0, 0, 0, 0)...)}},
		// There is a seat for each candidate; a seat that is left changes no weights.
		{piles([]string{"", "ab"}, 5, 1), []int{1, 0}, 2, []impl.Step{rest(0, whole(1, 0)...), rest(1, whole(0, 1)...)}},
		{piles([]string{"", "ab", "ba"}, 3, 2, 1), []int{1, 0}, 2, []impl.Step{rest(0, whole(2, 1)...), in(1, whole(0, 3)...)}},
		{piles([]string{"ab"}, 6), []int{1, 0}, 2, []impl.Step{in(0, whole(6, 0)...), in(1, whole(0, 3)...)}},
		{piles([]string{"ab"}, 5), []int{0, 1}, 2, []impl.Step{in(0, whole(5, 0)...), in(1, whole(0, 3)...)}},
		{piles([]string{"ba"}, 1), []int{0, 1}, 2, []impl.Step{in(1, whole(0, 1)...), rest(0, whole(0, 0)...)}},
		{piles([]string{"a"}, 6), []int{1, 0}, 2, []impl.Step{in(0, whole(6, 0)...), rest(1, whole(0, 0)...)}},
		// The one who is left has no ballot.
		{piles([]string{"a"}, 60), []int{2, 1, 0}, 2, []impl.Step{in(0, whole(60, 0, 0)...), out(1, whole(0, 0, 0)...), rest(2, whole(0, 0, 0)...)}},
		{piles([]string{"", "a", "b"}, 6, 2, 1), []int{1, 0}, 2, []impl.Step{rest(0, whole(2, 1)...), rest(1, whole(0, 1)...)}},
	})
}

func TestTransferOfManyPiles(t *testing.T) {
	kinds := map[[3]int]int{}
	eachTransfer(func(list []impl.Pile, lots []int, seats int) {
		for _, s := range mustTransfer(t, list, lots, seats) {
			kinds[[3]int{len(lots), seats, s.Kind}]++
		}
	})
	for n := 1; n <= 5; n++ {
		for seats := 1; seats <= min(2, n); seats++ {
			for kind := 1; kind <= 3; kind++ {
				if got := kinds[[3]int{n, seats, kind}]; got < 50 && (kind != impl.StepOut || n > seats) {
					t.Errorf("only %d steps of %d candidates and %d seats have the kind %d", got, n, seats, kind)
				}
			}
		}
	}
}

func TestTransferOfAllSmallPiles(t *testing.T) {
	for i, list := range pilesOfFew(1, 2, 4) {
		for n := 1; n <= 4; n++ {
			orders := ordersOf(n)
			for seats := 1; seats <= 2; seats++ {
				lots := orders[(i+seats)%len(orders)]
				if doFit(list, n) && seats <= n {
					mustTransfer(t, list, lots, seats)
				} else {
					checkNoTransfer(t, list, lots, seats)
				}
			}
		}
	}
}

func TestTransferOfInvalidPiles(t *testing.T) {
	for _, list := range invalidPiles() {
		for n := 1; n <= 5; n++ {
			for seats := 1; seats <= 2; seats++ {
				checkNoTransfer(t, list, ordersOf(n)[0], seats)
				checkNoTransfer(t, list, ordersOf(n)[factorial(n)-1], seats)
			}
		}
		checkNoTransfer(t, list, nil, 1)
		checkNoTransfer(t, list, []int{0, 0}, 2)
		checkNoTransfer(t, list, []int{1, 0}, 3)
	}
}

func TestTransferOfInvalidLots(t *testing.T) {
	refused := 0
	for _, list := range [][]impl.Pile{nil, piles([]string{""}, 1), piles([]string{"a"}, 1), piles([]string{"a", "b"}, 2, 1), piles([]string{"abcde", "edcba"}, 30), piles(ballotTexts()[:12], 1)} {
		for _, lots := range append(listsOf(-1, 5, 4), invalidLots()...) {
			if !areLots(lots) {
				checkNoTransfer(t, list, lots, 1)
				checkNoTransfer(t, list, lots, 2)
				refused++
			}
		}
		checkNoTransfer(t, list, nil, 0)
		checkNoTransfer(t, list, []int{}, -1)
	}
	if refused < 1000 {
		t.Errorf("only %d lots are invalid", refused)
	}
}

func TestTransferOfTooFewLots(t *testing.T) {
	for n := 1; n <= 4; n++ {
		for _, text := range ballotTexts() {
			if list := piles([]string{text}, 2); !doFit(list, n) {
				for seats := 1; seats <= 2; seats++ {
					checkNoTransfer(t, list, ordersOf(n)[0], seats)
					checkNoTransfer(t, append(piles([]string{""}, 58), list...), ordersOf(n)[factorial(n)-1], seats)
				}
			}
		}
	}
	// One ballot is enough, even if all seats are given before it would count for this candidate.
	checkNoTransfer(t, piles([]string{"a", "ac", "b"}, 20, 1), []int{1, 0}, 2)
	checkNoTransfer(t, piles([]string{"a", "abcde"}, 59, 1), []int{3, 2, 1, 0}, 1)
}

func TestTransferOfTooManyBallots(t *testing.T) {
	texts := ballotTexts()
	for _, e := range []struct {
		list  []impl.Pile
		total int
	}{
		{piles([]string{"a"}, 60), 60}, {piles([]string{"a"}, 61), 61}, {piles([]string{"a"}, 99), 99}, {piles([]string{""}, 60), 60}, {piles([]string{""}, 61), 61},
		{piles([]string{"", "a"}, 30, 30), 60}, {piles([]string{"", "a"}, 31, 30), 61}, {piles([]string{"", "a"}, 30, 31), 61}, {piles([]string{"", "a", "ab"}, 58, 1, 1), 60}, {piles([]string{"", "a", "ab"}, 59, 1, 1), 61},
		{piles(texts[:12], 5), 60}, {piles(texts[:12], 6, 5, 5, 5, 5, 5, 5, 5, 5, 5, 5, 5), 61}, {piles(texts[:12], 5, 5, 5, 5, 5, 5, 5, 5, 5, 5, 5, 6), 61}, {piles(texts[100:112], 99), 1188}, {piles(texts[314:], 5), 60}, {piles(texts[314:], 4, 6, 6), 64},
	} {
		if got := impl.PilesTotal(e.list); got != e.total {
			t.Fatalf("%v have %d ballots", e.list, got)
		}
		for seats := 1; seats <= 2; seats++ {
			if e.total <= 60 {
				mustTransfer(t, e.list, []int{2, 0, 1, 4, 3}, seats)
			} else {
				checkNoTransfer(t, e.list, []int{2, 0, 1, 4, 3}, seats)
			}
		}
	}
}

func TestTransferOfAllNumbersOfBallots(t *testing.T) {
	for total := 1; total <= 99; total++ {
		for _, text := range []string{"", "a", "b", "ba"} {
			for n := 2; n <= 5; n++ {
				for seats := 1; seats <= 2; seats++ {
					if list := piles([]string{text}, total); total <= 60 {
						mustTransfer(t, list, ordersOf(n)[total%factorial(n)], seats)
					} else {
						checkNoTransfer(t, list, ordersOf(n)[0], seats)
					}
				}
			}
		}
	}
}

func TestTransferOfInvalidSeats(t *testing.T) {
	for _, list := range [][]impl.Pile{nil, piles([]string{""}, 1), piles([]string{"a"}, 1), piles([]string{"a"}, 60), piles([]string{"", "a"}, 2, 2)} {
		for n := 1; n <= 5; n++ {
			for _, lots := range someOrders(n) {
				for _, seats := range append(slices.Clone(badSeats), n+1, n+2, -n) {
					if seats < 1 || seats > 2 || seats > n {
						checkNoTransfer(t, list, lots, seats)
					}
				}
			}
		}
		// There are fewer candidates than seats.
		checkNoTransfer(t, list, []int{0}, 2)
		mustTransfer(t, list, []int{0}, 1)
		mustTransfer(t, list, []int{1, 0}, 2)
	}
}

func TestPromise72TheQuotaIsTheLeast(t *testing.T) {
	for total := 0; total <= 60; total++ {
		for seats := 1; seats <= 2; seats++ {
			quota := impl.TransferQuota(total, seats)
			if quota*(seats+1) <= total || (quota-1)*(seats+1) > total || quota < 1 {
				t.Errorf("TransferQuota(%d, %d) returned %d", total, seats, quota)
			}
		}
	}
}

func TestPromise72NoQuotaOutOfRange(t *testing.T) {
	seats := append([]int{1, 2}, badSeats...)
	for _, total := range badTotals {
		for _, many := range seats {
			if got := impl.TransferQuota(total, many); got != -1 {
				t.Errorf("TransferQuota(%d, %d) returned %d", total, many, got)
			}
		}
	}
	for total := -1000; total <= 1000; total++ {
		for many := -100; many <= 100; many++ {
			if got := impl.TransferQuota(total, many); (got == -1) != (total < 0 || total > 60 || many < 1 || many > 2) {
				t.Errorf("TransferQuota(%d, %d) returned %d", total, many, got)
			}
		}
		for _, many := range badSeats {
			if got := impl.TransferQuota(total, many); got != -1 {
				t.Errorf("TransferQuota(%d, %d) returned %d", total, many, got)
			}
		}
	}
}

func TestPromise73AsManyWinnersAsSeats(t *testing.T) {
	lengths := map[[3]int]int{}
	eachTransfer(func(list []impl.Pile, lots []int, seats int) {
		steps, winners := stepsOf(t, list, lots, seats)
		if len(winners) != seats || !slices.Equal(winners, seated(steps)) || seats == 2 && winners[0] == winners[1] {
			t.Fatalf("TransferWinners(%v, %v, %d) returned %v after %v", list, lots, seats, winners, steps)
		}
		for i, gone := range goneBefore(steps) {
			if gone[steps[i].Who] {
				t.Fatalf("TransferSteps(%v, %v, %d) returned %v", list, lots, seats, steps)
			}
		}
		// No step follows when all seats are given.
		if steps[len(steps)-1].Kind == impl.StepOut {
			t.Fatalf("TransferSteps(%v, %v, %d) returned %v", list, lots, seats, steps)
		}
		lengths[[3]int{len(lots), seats, len(steps)}]++
	})
	for n := 1; n <= 5; n++ {
		for seats := 1; seats <= min(2, n); seats++ {
			for many := range 7 {
				if got := lengths[[3]int{n, seats, many}]; (many >= seats && many <= n) != (got > 5) {
					t.Errorf("%d transfers of %d candidates and %d seats have %d steps", got, n, seats, many)
				}
			}
		}
	}
}

// sumOfFracs returns the sum of fractions.
func sumOfFracs(counts []impl.Frac) *big.Rat {
	sum := new(big.Rat)
	for _, count := range counts {
		sum.Add(sum, ratio(count))
	}
	return sum
}

// quotaOf returns the quota as TransferQuota returns it.
func quotaOf(t *testing.T, list []impl.Pile, seats int) *big.Rat {
	t.Helper()
	quota := impl.TransferQuota(impl.PilesTotal(list), seats)
	if quota < 1 {
		t.Fatalf("the quota of %v and %d seats is %d", list, seats, quota)
	}
	return big.NewRat(int64(quota), 1)
}

func TestPromise74TheSumsOfCounts(t *testing.T) {
	ended, same := 0, 0
	eachTransfer(func(list []impl.Pile, lots []int, seats int) {
		steps, _ := stepsOf(t, list, lots, seats)
		quota := quotaOf(t, list, seats)
		before := big.NewRat(int64(impl.PilesTotal(list)), 1)
		for i, s := range steps {
			sum := sumOfFracs(s.Counts)
			switch sum.Cmp(before) {
			case 1:
				t.Fatalf("the sum of step %d of %v with lots %v and %d seats is %v, after %v: %v", i, list, lots, seats, sum, before, steps)
			case 0:
				same++
			default:
				ended++
			}
			if before = sum; s.Kind == impl.StepIn {
				before = new(big.Rat).Sub(sum, quota)
			}
		}
	})
	if ended < 1000 || same < 1000 {
		t.Errorf("%d sums are less than they may be, and %d are not", ended, same)
	}
}

func TestPromise74NothingIsLost(t *testing.T) {
	behindIn := 0
	for n := 2; n <= 5; n++ {
		lists := slices.DeleteFunc(append(pilesFor(n), pilesOfRunoffs(n)...), func(list []impl.Pile) bool { return totalOf(list) > 60 || !nameAll(list, n) })
		for many := 1; many <= 60; many++ {
			lists = append(lists, piles([]string{letters[:n]}, many))
		}
		for i, list := range lists {
			// On ballots that name all candidates, somebody is always left.
			for seats := 1; seats <= 2; seats++ {
				steps, _ := stepsOf(t, list, ordersOf(n)[i%factorial(n)], seats)
				due := big.NewRat(int64(impl.PilesTotal(list)), 1)
				for _, s := range steps {
					if sum := sumOfFracs(s.Counts); sum.Cmp(due) != 0 {
						t.Fatalf("the steps of %v and %d seats are %v", list, seats, steps)
					}
					if s.Kind == impl.StepIn {
						due.Sub(due, quotaOf(t, list, seats))
						behindIn++
					}
				}
			}
		}
	}
	if behindIn < 500 {
		t.Errorf("only %d steps are StepIn", behindIn)
	}
}

func TestPromise75TheQuotaDecides(t *testing.T) {
	decided, exactly, fractions, below := 0, 0, 0, 0
	eachTransfer(func(list []impl.Pile, lots []int, seats int) {
		steps, _ := stepsOf(t, list, lots, seats)
		quota := quotaOf(t, list, seats)
		for i, s := range steps {
			count := ratio(s.Counts[s.Who])
			for c, other := range s.Counts {
				order := ratio(other).Cmp(count)
				if s.Kind != impl.StepIn {
					if ratio(other).Cmp(quota) >= 0 {
						t.Fatalf("step %d of %v with lots %v and %d seats is %v, though %d has the quota", i, list, lots, seats, s, c)
					}
					if new(big.Rat).Add(ratio(other), big.NewRat(1, 1)).Cmp(quota) == 0 {
						below++
					}
					continue
				}
				if order > 0 || order == 0 && slices.Index(lots, c) < slices.Index(lots, s.Who) {
					t.Fatalf("step %d of %v with lots %v and %d seats is %v, though %d comes first", i, list, lots, seats, s, c)
				}
				if order == 0 && c != s.Who {
					decided++
				}
			}
			if s.Kind != impl.StepIn {
				continue
			}
			switch count.Cmp(quota) {
			case -1:
				t.Fatalf("step %d of %v with lots %v and %d seats is %v, below the quota", i, list, lots, seats, s)
			case 0:
				exactly++
			}
			if !count.IsInt() {
				fractions++
			}
		}
	})
	if decided < 100 || exactly < 1000 || fractions < 100 || below < 1000 {
		t.Errorf("%d seats were decided by lots, %d counts are the quota, %d are no whole numbers, and %d are one below the quota", decided, exactly, fractions, below)
	}
}

func TestPromise75AtTheQuota(t *testing.T) {
	for total := 2; total <= 60; total++ {
		for seats := 1; seats <= 2; seats++ {
			quota := impl.TransferQuota(total, seats)
			for many := max(1, quota-1); many <= min(total, quota+1); many++ {
				list := piles([]string{"ab"}, many)
				if many < total {
					list = append(piles([]string{""}, total-many), list...)
				}
				steps := mustTransfer(t, list, []int{2, 1, 0}, seats)
				if got := steps[0].Kind == impl.StepIn && steps[0].Who == 0; got != (many >= quota) {
					t.Fatalf("the steps of %v and %d seats are %v", list, seats, steps)
				}
				// What is more than the quota goes on, and nothing if there is no more.
				if seats == 2 && many >= quota && steps[1].Counts[1] != frac(many-quota, 1) {
					t.Fatalf("the steps of %v and %d seats are %v", list, seats, steps)
				}
			}
		}
	}
}

// checkEachLotOfSteps checks that the lots decide between some candidates, in piles in which those have so many ballots alone and all others so many.
func checkEachLotOfSteps(t *testing.T, theirs int, others int, seats int, kind int, decide func(lots []int, some []bool) int) {
	t.Helper()
	for n := 3; n <= 5; n++ {
		for _, some := range masksOf(n) {
			if !slices.Contains(some, true) {
				continue
			}
			list := []impl.Pile{}
			for c, one := range some {
				many := others
				if one {
					many = theirs
				}
				if many > 0 {
					list = append(list, impl.Pile{Text: letters[c : c+1], Many: many})
				}
			}
			for _, lots := range ordersOf(n) {
				if steps := mustTransfer(t, list, lots, seats); steps[0].Kind == kind && steps[0].Who != decide(lots, some) {
					t.Fatalf("the steps of %v with lots %v and %d seats are %v", list, lots, seats, steps)
				}
			}
		}
	}
}

func TestPromise75EachLotDecides(t *testing.T) {
	for seats := 1; seats <= 2; seats++ {
		checkEachLotOfSteps(t, 12, 0, seats, impl.StepIn, impl.LotsFirst)
		checkEachLotOfSteps(t, 12, 1, seats, impl.StepIn, impl.LotsFirst)
	}
}

func TestPromise76EachLotDecides(t *testing.T) {
	last := func(lots []int, some []bool) int {
		back := slices.Clone(lots)
		slices.Reverse(back)
		return back[slices.IndexFunc(back, func(c int) bool { return some[c] })]
	}
	for seats := 1; seats <= 2; seats++ {
		checkEachLotOfSteps(t, 4, 5, seats, impl.StepOut, last)
		checkEachLotOfSteps(t, 0, 1, seats, impl.StepOut, last)
	}
}

func TestPromise76NobodyWhoIsThereHasLess(t *testing.T) {
	decided, clear, gones := 0, 0, 0
	eachTransfer(func(list []impl.Pile, lots []int, seats int) {
		steps, _ := stepsOf(t, list, lots, seats)
		for i, gone := range goneBefore(steps) {
			s, equals := steps[i], 0
			for c, count := range s.Counts {
				order := ratio(count).Cmp(ratio(s.Counts[s.Who]))
				switch {
				case gone[c] && count != frac(0, 1):
					t.Fatalf("step %d of %v with lots %v and %d seats is %v, though %d is gone", i, list, lots, seats, s, c)
				case gone[c]:
					gones++
				case s.Kind != impl.StepOut || c == s.Who:
				case order < 0 || order == 0 && slices.Index(lots, c) > slices.Index(lots, s.Who):
					t.Fatalf("step %d of %v with lots %v and %d seats is %v, though %d should leave", i, list, lots, seats, s, c)
				case order == 0:
					equals++
				}
			}
			if s.Kind == impl.StepOut && equals > 0 {
				decided++
			} else if s.Kind == impl.StepOut {
				clear++
			}
		}
	})
	if decided < 1000 || clear < 1000 || gones < 1000 {
		t.Errorf("lots decided %d times who leaves, and counts %d times; %d counts are of those who are gone", decided, clear, gones)
	}
}

func TestPromise77SeatsThatAreLeft(t *testing.T) {
	rests, outs := map[int]int{}, map[int]int{}
	eachTransfer(func(list []impl.Pile, lots []int, seats int) {
		steps, _ := stepsOf(t, list, lots, seats)
		left := seats
		for i, gone := range goneBefore(steps) {
			s, there := steps[i], thereIn(gone)
			if s.Kind == impl.StepRest && there > left || s.Kind == impl.StepOut && there <= left {
				t.Fatalf("step %d of %v with lots %v is %v, with %d candidates and %d seats: %v", i, list, lots, s, there, left, steps)
			}
			if s.Kind == impl.StepRest {
				checkRest(t, s, gone, lots)
				rests[left]++
			}
			if s.Kind == impl.StepOut {
				outs[there-left]++
			} else {
				left--
			}
		}
		if left != 0 {
			t.Fatalf("TransferSteps(%v, %v, %d) returned %v", list, lots, seats, steps)
		}
	})
	for left := 1; left <= 2; left++ {
		if rests[left] < 200 {
			t.Errorf("only %d seats are given as the rest of %d", rests[left], left)
		}
	}
	for more := 1; more <= 4; more++ {
		if outs[more] < 200 {
			t.Errorf("only %d leave as one of %d candidates more than seats", outs[more], more)
		}
	}
}

// checkRest checks that somebody who is still there gets a seat that is left, with the greatest count, and the first lot of several ones.
func checkRest(t *testing.T, s impl.Step, gone []bool, lots []int) {
	t.Helper()
	for c, count := range s.Counts {
		order := ratio(count).Cmp(ratio(s.Counts[s.Who]))
		if gone[s.Who] || !gone[c] && (order > 0 || order == 0 && slices.Index(lots, c) < slices.Index(lots, s.Who)) {
			t.Fatalf("%d gets a seat that is left in %v with lots %v, though %v are gone", s.Who, s, lots, gone)
		}
	}
}

func TestPromise78AMajorityGetsTheOnlySeat(t *testing.T) {
	majority, none := 0, 0
	eachTransfer(func(list []impl.Pile, lots []int, seats int) {
		if seats != 1 {
			return
		}
		counts := mustCount(t, list, make([]bool, len(lots)))
		most := slices.Max(counts)
		steps, winners := stepsOf(t, list, lots, 1)
		if 2*most <= impl.PilesTotal(list) {
			if steps[0].Kind == impl.StepIn {
				t.Fatalf("TransferSteps(%v, %v, 1) returned %v", list, lots, steps)
			}
			none++
			return
		}
		majority++
		who := slices.Index(counts, most)
		if !slices.Equal(winners, []int{who}) || len(steps) != 1 || impl.RunoffWinner(list, lots) != who {
			t.Fatalf("TransferWinners(%v, %v, 1) returned %v after %v, though %d has a majority", list, lots, winners, steps, who)
		}
	})
	if majority < 1000 || none < 1000 {
		t.Errorf("one has a majority in %d transfers, and nobody in %d", majority, none)
	}
}

func TestPromise78AtHalfOfAllBallots(t *testing.T) {
	for others := 2; others <= 30; others++ {
		for many := others - 1; many <= min(others+1, 60-others); many++ {
			// The other ballots all end with the last candidate, who stays longest, and one names nobody.
			list := piles([]string{"", "a", "bd", "cd", "d"}, 1, many, others/4, others/4, others-1-2*(others/4))
			list = slices.DeleteFunc(list, func(p impl.Pile) bool { return p.Many == 0 })
			steps := mustTransfer(t, list, []int{3, 2, 1, 0}, 1)
			if first := len(steps) == 1; first != (many > others) {
				t.Fatalf("TransferSteps(%v) returned %v", list, steps)
			}
			if winner := impl.TransferWinners(list, []int{3, 2, 1, 0}, 1)[0]; (winner == 0) != (many >= others) {
				t.Fatalf("TransferWinners(%v) returned %d", list, winner)
			}
		}
	}
}

// otherSteps returns steps that each differ from some in one way.
func otherSteps(steps []impl.Step) [][]impl.Step {
	last := steps[len(steps)-1]
	n := len(last.Counts)
	others := [][]impl.Step{
		// There are too few, or too many.
		nil, steps[:len(steps)-1], steps[1:],
		append(clonedSteps(steps), last), append(clonedSteps(steps), impl.Step{}), append(clonedSteps(steps), rest(0, make([]impl.Frac, n)...)), append(clonedSteps(steps), out(0, whole(make([]int, n)...)...)),
		append([]impl.Step{steps[0]}, steps...), append(clonedSteps(steps), steps...), slices.Repeat([]impl.Step{last}, 1000),
	}
	// differ adds steps of which one was changed.
	differ := func(i int, change func(s *impl.Step)) {
		changed := clonedSteps(steps)
		change(&changed[i])
		others = append(others, changed)
	}
	for i, s := range steps {
		for c := range n {
			count := s.Counts[c]
			for _, other := range []impl.Frac{
				frac(count.Num+1, count.Den), frac(count.Num-1, count.Den), frac(count.Num, count.Den+1), frac(count.Num, -count.Den), frac(-count.Num, -count.Den),
				// It is the same number, but no fraction.
				frac(2*count.Num, 2*count.Den), frac(60*count.Num, 60*count.Den),
				{}, frac(count.Num, 0), frac(math.MinInt, math.MinInt), frac(math.MaxInt, 1),
			} {
				differ(i, func(s *impl.Step) { s.Counts[c] = other })
			}
			if count != s.Counts[0] {
				differ(i, func(s *impl.Step) { s.Counts[c], s.Counts[0] = s.Counts[0], s.Counts[c] })
			}
		}
		for _, number := range append([]int{-1, 0, 1, 2, 3, 4, 5, n}, oddNumbers...) {
			if number != s.Who {
				differ(i, func(s *impl.Step) { s.Who = number })
			}
			if number != s.Kind {
				differ(i, func(s *impl.Step) { s.Kind = number })
			}
		}
		differ(i, func(s *impl.Step) { s.Counts = nil })
		differ(i, func(s *impl.Step) { s.Counts = s.Counts[:n-1] })
		differ(i, func(s *impl.Step) { s.Counts = s.Counts[1:] })
		differ(i, func(s *impl.Step) { s.Counts = append(s.Counts, frac(0, 1)) })
		if i > 0 {
			// Each two steps have different candidates.
			changed := clonedSteps(steps)
			changed[i-1], changed[i] = changed[i], changed[i-1]
			others = append(others, changed, slices.Delete(clonedSteps(steps), i-1, i))
		}
	}
	return others
}

func TestPromise79StepsOfTheTransferOnly(t *testing.T) {
	transfers := 0
	eachTransfer(func(list []impl.Pile, lots []int, seats int) {
		steps, _ := stepsOf(t, list, lots, seats)
		if !impl.TransferCheck(list, lots, seats, steps) || !impl.TransferCheck(list, lots, seats, clonedSteps(steps)) {
			t.Fatalf("TransferCheck(%v, %v, %d, %v) is false", list, lots, seats, steps)
		}
		// All transfers would take long.
		if transfers++; transfers%29 != 0 {
			return
		}
		for _, others := range otherSteps(steps) {
			if impl.TransferCheck(list, lots, seats, others) {
				t.Fatalf("TransferCheck(%v, %v, %d, %.300v) is true, but the steps are %v", list, lots, seats, others, steps)
			}
		}
	})
}

func TestPromise79StepsOfOtherTransfers(t *testing.T) {
	lists := [][]impl.Pile{nil, piles([]string{"ab", "b", "c"}, 8, 1, 3), piles([]string{"ab", "b", "c"}, 7, 1, 3), piles([]string{"ac", "b", "c"}, 8, 1, 3), piles([]string{"", "ab", "b", "c"}, 1, 8, 1, 3), piles([]string{"ab", "b", "cb"}, 8, 1, 3)}
	held, refused := 0, 0
	for _, list := range lists {
		for _, lots := range ordersOf(3) {
			for seats := 1; seats <= 2; seats++ {
				steps, _ := stepsOf(t, list, lots, seats)
				for _, more := range lists {
					for _, others := range ordersOf(3) {
						for many := 1; many <= 2; many++ {
							due, _ := stepsOf(t, more, others, many)
							if got := impl.TransferCheck(more, others, many, steps); got != sameSteps(steps, due) {
								t.Fatalf("TransferCheck(%v, %v, %d, %v) is %v", more, others, many, steps, got)
							} else if got {
								held++
							} else {
								refused++
							}
						}
					}
				}
				// The arguments of others are invalid, or there is a further candidate.
				if impl.TransferCheck(list, append(slices.Clone(lots), 3), seats, steps) || impl.TransferCheck(list, lots[:2], seats, steps) || impl.TransferCheck(list, nil, seats, steps) || impl.TransferCheck(list, lots, 0, steps) || impl.TransferCheck(list, lots, 3, steps) || impl.TransferCheck(append(slices.Clone(list), impl.Pile{}), lots, seats, steps) {
					t.Fatalf("TransferCheck is true for the steps of %v with lots %v and %d seats", list, lots, seats)
				}
			}
		}
	}
	if held < 100 || refused < 1000 {
		t.Errorf("%d steps hold, and %d do not", held, refused)
	}
}

// turnedSteps returns steps in which two candidates are exchanged.
func turnedSteps(steps []impl.Step, x int, y int) []impl.Step {
	turned := clonedSteps(steps)
	for i, s := range turned {
		s.Counts[x], s.Counts[y] = s.Counts[y], s.Counts[x]
		turned[i].Who = turnedNumber(s.Who, x, y)
	}
	return turned
}

func TestPromise80TheWinnersExchanged(t *testing.T) {
	changed, transfers := 0, 0
	eachTransfer(func(list []impl.Pile, lots []int, seats int) {
		// All transfers would take long, and a third of them still has all lots.
		if transfers++; transfers%3 != 0 {
			return
		}
		steps, winners := stepsOf(t, list, lots, seats)
		for x := range lots {
			for y := range x + 1 {
				turned, ok := impl.PilesTurn(list, x, y)
				if !ok {
					t.Fatalf("PilesTurn(%v, %d, %d) failed", list, x, y)
				}
				others, got := stepsOf(t, turned, turnedNumbers(lots, x, y), seats)
				if !slices.Equal(got, turnedNumbers(winners, x, y)) || !sameSteps(others, turnedSteps(steps, x, y)) {
					t.Fatalf("the winners of %v with lots %v are %v after %v, and with %d and %d exchanged %v after %v", list, lots, winners, steps, x, y, got, others)
				}
				if !slices.Equal(got, winners) {
					changed++
				}
			}
		}
	})
	if changed < 1000 {
		t.Errorf("only %d winners have been exchanged", changed)
	}
}

// aheadOf returns how many ballots name two candidates ahead of all others, in any order.
func aheadOf(list []impl.Pile, x int, y int) int {
	many := 0
	for _, p := range list {
		if len(p.Text) >= 2 && strings.Contains(p.Text[:2], letters[x:x+1]) && strings.Contains(p.Text[:2], letters[y:y+1]) {
			many += p.Many
		}
	}
	return many
}

// checkSolid checks that each two candidates whom a quota of ballots names ahead of all others have a seat, and tells how many there are.
func checkSolid(t *testing.T, list []impl.Pile, lots []int, seats int) int {
	t.Helper()
	steps, winners := stepsOf(t, list, lots, seats)
	quota, solid := impl.TransferQuota(impl.PilesTotal(list), seats), 0
	for x := range lots {
		for y := range x {
			if aheadOf(list, x, y) < quota {
				continue
			}
			solid++
			if !slices.Contains(winners, x) && !slices.Contains(winners, y) {
				t.Fatalf("%v have the seats of %v with lots %v after %v, but not %d or %d", winners, list, lots, steps, x, y)
			}
		}
	}
	return solid
}

func TestPromise81OneOfTwoGetsASeat(t *testing.T) {
	numbers := map[int]int{}
	eachTransfer(func(list []impl.Pile, lots []int, seats int) {
		if got := checkSolid(t, list, lots, seats); got > 0 {
			numbers[seats]++
		}
	})
	if numbers[1] < 200 || numbers[2] < 200 {
		t.Errorf("a quota of ballots names two ahead of others in %v transfers", numbers)
	}
}

func TestPromise81InBothOrders(t *testing.T) {
	for total := 4; total <= 60; total++ {
		for seats := 1; seats <= 2; seats++ {
			quota := impl.TransferQuota(total, seats)
			for _, forth := range []int{0, 1, quota / 2, quota - 1, quota} {
				ballots := append(slices.Repeat([]string{"ab"}, forth), slices.Repeat([]string{"bac"}, quota-forth)...)
				for i := len(ballots); i < total; i++ {
					ballots = append(ballots, []string{"c", "d", "e"}[i%3])
				}
				for _, lots := range [][]int{{0, 1, 2, 3, 4}, {4, 3, 2, 1, 0}, {2, 3, 4, 0, 1}, {3, 0, 4, 1, 2}} {
					mustTransfer(t, piled(ballots), lots, seats)
					if checkSolid(t, piled(ballots), lots, seats) == 0 {
						t.Fatalf("nobody is ahead of others in %v", piled(ballots))
					}
				}
			}
		}
	}
}

func TestPromise81OneBelowTheQuota(t *testing.T) {
	for quota := 2; quota <= 20; quota++ {
		// Others have all seats if two have one ballot less than a quota.
		list := piles([]string{"ab", "ba", "c", "d"}, quota/2, quota-1-quota/2, quota, quota)
		list = slices.DeleteFunc(list, func(p impl.Pile) bool { return p.Many == 0 })
		if got := impl.TransferQuota(impl.PilesTotal(list), 2); got != quota {
			t.Fatalf("the quota of %v is %d", list, got)
		}
		for _, lots := range ordersOf(4) {
			mustTransfer(t, list, lots, 2)
			if got := impl.TransferWinners(list, lots, 2); slices.Contains(got, 0) || slices.Contains(got, 1) {
				t.Fatalf("%v have the seats of %v with lots %v", got, list, lots)
			}
		}
	}
}

func TestTransferArgumentsAreNotChanged(t *testing.T) {
	lists := append(slices.Concat(pilesOfTransfers(5), manyPiles(), invalidPiles()), nil)
	for _, list := range lists {
		for n, lots := range [][]int{{}, {0}, {1, 0}, {2, 0, 1}, {3, 1, 0, 2}, {3, 1, 0, 2, 4}, {3, 1, 0, 2, 4, 5}} {
			// What is in the spare capacity belongs to the caller, too.
			first := append(slices.Clone(list), sparePiles...)
			order := append(slices.Clone(lots), 41, 42)
			own := slices.Clone(order)
			seats := 1 + n%2
			steps, _ := transferred(list, order[:n], seats)
			kept := append(clonedSteps(steps), rest(7, frac(41, 42)))
			given := clonedSteps(kept)
			impl.TransferSteps(first[:len(list)], own[:n], seats)
			impl.TransferWinners(first[:len(list)], own[:n], seats)
			impl.TransferCheck(first[:len(list)], own[:n], seats, given[:len(steps)])
			impl.TransferCheck(first[:len(list)], own[:n], seats, given)
			if !slices.Equal(first, append(slices.Clone(list), sparePiles...)) || !slices.Equal(own, order) || !sameSteps(given, kept) {
				t.Fatalf("%.100v, %v and %v have become %.100v, %v and %v", list, order, kept, first, own, given)
			}
		}
	}
}

func TestTransferStepsShareNoMemory(t *testing.T) {
	eachTransfer(func(list []impl.Pile, lots []int, seats int) {
		ownList, ownLots := slices.Clone(list), slices.Clone(lots)
		first, winners := stepsOf(t, ownList, ownLots, seats)
		second, others := stepsOf(t, ownList, ownLots, seats)
		kept, keptOthers := clonedSteps(second), slices.Clone(others)
		for i := range first {
			// All other steps stay as they are when one of them is changed.
			counts := first[i].Counts[:cap(first[i].Counts)]
			for k := range counts {
				counts[k] = frac(-7, 0)
			}
			if !sameSteps(first[i+1:], kept[i+1:]) {
				t.Fatalf("the steps of %v behind %d have become %v", list, i, first)
			}
		}
		for i := range first[:cap(first)] {
			first[:cap(first)][i] = impl.Step{Who: -7}
		}
		spoil(winners)
		if !slices.Equal(ownList, list) || !slices.Equal(ownLots, lots) {
			t.Fatalf("%v and %v have become %v and %v", list, lots, ownList, ownLots)
		}
		// Nothing reads the arguments any more.
		for i := range ownList {
			ownList[i] = impl.Pile{Text: "?", Many: -7}
		}
		spoil(ownLots)
		if !sameSteps(second, kept) || !slices.Equal(others, keptOthers) {
			t.Fatalf("the steps of %v were %v, and have become %v", list, kept, second)
		}
	})
}

func TestTransferIsTheSameAtTheSameTime(t *testing.T) {
	list := piles([]string{"", "ab", "ba", "bac", "c", "cab", "cda", "dc", "dea", "e", "ead", "edc"}, 1, 14, 3, 6, 5)
	lots := []int{4, 3, 2, 1, 0}
	list[6].Many, list[11].Many = 2, 4
	want := mustTransfer(t, list, lots, 2)
	var callers sync.WaitGroup
	for range 8 {
		callers.Go(func() {
			for range 200 {
				if steps, ok := impl.TransferSteps(list, lots, 2); !ok || !sameSteps(steps, want) {
					t.Errorf("TransferSteps was %v, then %v", want, steps)
				}
				if !slices.Equal(impl.TransferWinners(list, lots, 2), seated(want)) || !impl.TransferCheck(list, lots, 2, want) || impl.TransferCheck(list, lots, 2, want[1:]) {
					t.Error("the winners have changed, or what TransferCheck tells of the steps")
				}
			}
		})
	}
	callers.Wait()
}
