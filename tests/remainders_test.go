package tests

import (
	"cmp"
	"math"
	"slices"
	"sync"
	"testing"

	"loop.example/tallyaudit/impl"
)

// badParties are never a party.
var badParties = []int{math.MinInt, math.MinInt + 1, math.MinInt32, -256, -6, -5, -2, -1, 5, 6, 7, 20, 99, 255, 256, math.MaxInt32, math.MaxInt - 1, math.MaxInt}

// dueShare is the share of a party, found by counting: the greatest number of seats that is not more, the least one that is not less, and by how much the first one is too little, in parts of a seat of which all votes are one.
type dueShare struct {
	low, high, rest int
}

// dueShareOf returns the share of a party with valid votes.
func dueShareOf(votes []int, seats int, party int) dueShare {
	all, mine := sumOfCounts(votes), 0
	for range seats {
		mine += votes[party]
	}
	s := dueShare{rest: mine}
	for s.rest >= all {
		s.rest -= all
		s.low++
	}
	for s.high*all < mine {
		s.high++
	}
	return s
}

// dueSharesOf returns the shares of all parties with valid votes.
func dueSharesOf(votes []int, seats int) []dueShare {
	shares := []dueShare{}
	for party := range votes {
		shares = append(shares, dueShareOf(votes, seats, party))
	}
	return shares
}

// byRemainders is what the document says of SeatsRemainder for valid arguments, in other words: the first parties, when they are sorted by remainders, have a seat more.
func byRemainders(votes []int, seats int, lots []int) []int {
	shares, given, order := dueSharesOf(votes, seats), []int{}, slices.Clone(lots)
	left := seats
	for _, s := range shares {
		given = append(given, s.low)
		left -= s.low
	}
	// Equal ones stay in the order of the lots.
	slices.SortStableFunc(order, func(x int, y int) int { return cmp.Compare(shares[y].rest, shares[x].rest) })
	for _, party := range order[:left] {
		given[party]++
	}
	return given
}

// isFair is what the document says of SeatsFair for valid arguments, in other words: nobody has a seat more or less than the share, or more than that.
func isFair(votes []int, given []int) bool {
	all, seats := sumOfCounts(votes), sumOfCounts(given)
	for party, many := range given {
		if over := many*all - votes[party]*seats; over <= -all || over >= all {
			return false
		}
	}
	return true
}

// mustShareOut returns the seats of valid arguments, without a look at what is due.
func mustShareOut(t *testing.T, votes []int, seats int, lots []int) []int {
	t.Helper()
	got, ok := impl.SeatsRemainder(votes, seats, lots)
	if !ok || len(got) != len(votes) || slices.Min(got) < 0 {
		t.Fatalf("SeatsRemainder(%v, %d, %v) returned %v, %v", votes, seats, lots, got, ok)
	}
	return got
}

// mustHaveQuota returns both numbers of valid arguments, without a look at what is due.
func mustHaveQuota(t *testing.T, votes []int, seats int, party int) (int, int) {
	t.Helper()
	low, high := impl.SeatsQuota(votes, seats, party)
	if low < 0 || high < 0 {
		t.Fatalf("SeatsQuota(%v, %d, %d) returned %d and %d", votes, seats, party, low, high)
	}
	return low, high
}

// checkNoRemainders tells if there are seats.
func checkNoRemainders(t *testing.T, votes []int, seats int, lots []int) {
	t.Helper()
	if got, ok := impl.SeatsRemainder(votes, seats, lots); ok || len(got) != 0 {
		t.Fatalf("SeatsRemainder(%.100v, %d, %.100v) returned %v, %v", votes, seats, lots, got, ok)
	}
}

// checkNoQuota tells if there is a share.
func checkNoQuota(t *testing.T, votes []int, seats int, party int) {
	t.Helper()
	if low, high := impl.SeatsQuota(votes, seats, party); low != -1 || high != -1 {
		t.Fatalf("SeatsQuota(%.100v, %d, %d) returned %d and %d", votes, seats, party, low, high)
	}
}

// checkNotFair tells if given seats are fair.
func checkNotFair(t *testing.T, votes []int, given []int) {
	t.Helper()
	if impl.SeatsFair(votes, given) {
		t.Fatalf("SeatsFair(%.100v, %.100v) is true", votes, given)
	}
}

// eachShareOut calls a check with many votes, all numbers of seats and many lots.
func eachShareOut(check func(votes []int, seats int, lots []int)) {
	for i, votes := range manyVotes() {
		orders := ordersOf(len(votes))
		for seats := 0; seats <= 20; seats++ {
			for k := range min(3, len(orders)) {
				check(votes, seats, orders[(7*i+5*seats+k*(1+len(orders)/3))%len(orders)])
			}
		}
	}
}

// eachQuota calls a check with many votes, all numbers of seats and all parties.
func eachQuota(check func(votes []int, seats int, party int)) {
	for _, votes := range manyVotes() {
		for seats := 0; seats <= 20; seats++ {
			for party := range votes {
				check(votes, seats, party)
			}
		}
	}
}

// eachMoved calls a check with many votes and the seats that are due by remainders, as they are and after some are moved from each party to each other one, and also with a seat more or less for each party.
func eachMoved(check func(votes []int, given []int)) {
	for i, votes := range manyVotes() {
		n := len(votes)
		orders := ordersOf(n)
		for seats := i % 3; seats <= 20; seats += 3 {
			given := byRemainders(votes, seats, orders[(i+seats)%len(orders)])
			check(votes, given)
			for from := range n {
				for to := range n {
					for _, many := range []int{1, 2, 3} {
						moved := slices.Clone(given)
						moved[from] -= many
						moved[to] += many
						if from != to && moved[from] >= 0 {
							check(votes, moved)
						}
					}
				}
				for _, many := range []int{-1, 1} {
					other := slices.Clone(given)
					other[from] += many
					if areGiven(other, n) {
						check(votes, other)
					}
				}
			}
		}
	}
}

// remainderExample is what was found by hand for votes.
type remainderExample struct {
	votes []int
	seats int
	lots  []int
	want  []int
}

// checkRemainders checks examples of seats.
func checkRemainders(t *testing.T, examples []remainderExample) {
	t.Helper()
	for _, e := range examples {
		if got, ok := impl.SeatsRemainder(e.votes, e.seats, e.lots); !ok || !slices.Equal(got, e.want) {
			t.Errorf("SeatsRemainder(%v, %d, %v) returned %v, %v, not %v", e.votes, e.seats, e.lots, got, ok, e.want)
		}
		// What is due is right, too.
		if due := byRemainders(e.votes, e.seats, e.lots); !slices.Equal(due, e.want) {
			t.Errorf("%d seats of %v by lots %v are due to be %v, not %v", e.seats, e.votes, e.lots, due, e.want)
		}
	}
}

func TestSeatsRemainderExamples(t *testing.T) {
	checkRemainders(t, []remainderExample{
		{[]int{60, 30, 10}, 7, []int{0, 1, 2}, []int{4, 2, 1}},
		{[]int{60, 30, 10}, 1, []int{2, 1, 0}, []int{1, 0, 0}},
		{[]int{60, 30, 10}, 2, []int{2, 0, 1}, []int{1, 1, 0}},
		{[]int{60, 30, 10}, 3, []int{2, 0, 1}, []int{2, 1, 0}},
		{[]int{41, 29, 17, 13}, 8, []int{3, 1, 0, 2}, []int{3, 2, 2, 1}},
		{[]int{99, 1}, 20, []int{1, 0}, []int{20, 0}},
		{[]int{99, 2}, 20, []int{1, 0}, []int{20, 0}},
		{[]int{99, 3}, 20, []int{0, 1}, []int{19, 1}},
		{[]int{99, 5}, 20, []int{0, 1}, []int{19, 1}},
		// With one seat more, the last party has one seat less.
		{[]int{6, 6, 2}, 10, []int{0, 1, 2}, []int{4, 4, 2}},
		{[]int{6, 6, 2}, 11, []int{2, 1, 0}, []int{5, 5, 1}},
		// Two have the same remainder, with other votes, too.
		{[]int{60, 30, 10}, 4, []int{0, 1, 2}, []int{3, 1, 0}},
		{[]int{60, 30, 10}, 4, []int{1, 2, 0}, []int{2, 1, 1}},
		{[]int{60, 30, 10}, 4, []int{2, 0, 1}, []int{2, 1, 1}},
		{[]int{5, 3, 1, 1}, 3, []int{3, 2, 1, 0}, []int{2, 1, 0, 0}},
		{[]int{5, 3, 1, 1}, 4, []int{0, 1, 2, 3}, []int{2, 1, 1, 0}},
		{[]int{5, 3, 1, 1}, 4, []int{0, 1, 3, 2}, []int{2, 1, 0, 1}},
		// All have the same remainder, and other votes.
		{[]int{1, 6, 11, 16, 16}, 10, []int{2, 0, 1, 4, 3}, []int{0, 1, 3, 3, 3}},
		{[]int{1, 6, 11, 16, 16}, 20, []int{4, 0, 1, 2, 3}, []int{1, 2, 4, 6, 7}},
		{[]int{3, 8, 13, 13, 13}, 10, []int{1, 4, 0, 3, 2}, []int{1, 2, 2, 2, 3}},
		{[]int{4, 4, 9, 14, 19}, 10, []int{4, 3, 0, 2, 1}, []int{1, 0, 2, 3, 4}},
	})
}

func TestSeatsRemainderExamplesOfWholeShares(t *testing.T) {
	checkRemainders(t, []remainderExample{
		// The shares of all are whole.
		{[]int{60, 30, 10}, 10, []int{2, 1, 0}, []int{6, 3, 1}},
		{[]int{60, 30, 10}, 20, []int{1, 2, 0}, []int{12, 6, 2}},
		{[]int{99, 99}, 20, []int{1, 0}, []int{10, 10}},
		{[]int{1, 1, 1, 1, 1}, 20, []int{3, 1, 4, 0, 2}, []int{4, 4, 4, 4, 4}},
		{[]int{99, 99, 99, 99, 99}, 5, []int{3, 1, 4, 0, 2}, []int{1, 1, 1, 1, 1}},
		{[]int{66, 0, 33}, 3, []int{1, 2, 0}, []int{2, 0, 1}},
		// Those of some are.
		{[]int{60, 30, 10}, 5, []int{0, 1, 2}, []int{3, 2, 0}},
		{[]int{60, 30, 10}, 5, []int{0, 2, 1}, []int{3, 1, 1}},
		{[]int{98, 49, 49}, 2, []int{0, 1, 2}, []int{1, 1, 0}},
		{[]int{98, 49, 49}, 6, []int{0, 2, 1}, []int{3, 1, 2}},
		{[]int{20, 10, 10, 0}, 2, []int{3, 0, 2, 1}, []int{1, 0, 1, 0}},
		{[]int{15, 6, 9}, 2, []int{0, 1, 2}, []int{1, 0, 1}},
	})
}

func TestSeatsRemainderExamplesAtTheEnds(t *testing.T) {
	checkRemainders(t, []remainderExample{
		// One party alone has all seats.
		{[]int{1}, 0, []int{0}, []int{0}},
		{[]int{1}, 1, []int{0}, []int{1}},
		{[]int{1}, 20, []int{0}, []int{20}},
		{[]int{99}, 20, []int{0}, []int{20}},
		// There are no seats.
		{[]int{99, 1}, 0, []int{1, 0}, []int{0, 0}},
		{[]int{0, 1, 0, 0, 99}, 0, []int{3, 0, 1, 4, 2}, []int{0, 0, 0, 0, 0}},
		// Parties without votes get nothing.
		{[]int{0, 1}, 20, []int{0, 1}, []int{0, 20}},
		{[]int{1, 0}, 20, []int{1, 0}, []int{20, 0}},
		{[]int{0, 99, 0}, 20, []int{2, 0, 1}, []int{0, 20, 0}},
		{[]int{0, 0, 0, 0, 1}, 20, []int{0, 1, 2, 3, 4}, []int{0, 0, 0, 0, 20}},
		{[]int{0, 7, 0, 7, 0}, 19, []int{0, 2, 4, 3, 1}, []int{0, 9, 0, 10, 0}},
		{[]int{0, 99, 1}, 1, []int{0, 2, 1}, []int{0, 1, 0}},
		// Lots decide who has one seat more.
		{[]int{1, 1}, 1, []int{0, 1}, []int{1, 0}},
		{[]int{1, 1}, 1, []int{1, 0}, []int{0, 1}},
		{[]int{99, 99, 99, 99, 99}, 7, []int{3, 1, 4, 0, 2}, []int{1, 2, 1, 2, 1}},
		{[]int{1, 1, 1, 1, 1}, 19, []int{3, 1, 4, 0, 2}, []int{4, 4, 3, 4, 4}},
		{[]int{5, 5, 5}, 20, []int{2, 0, 1}, []int{7, 6, 7}},
	})
}

func TestSeatsQuotaExamples(t *testing.T) {
	for _, e := range []struct {
		votes []int
		seats int
		party int
		low   int
		high  int
	}{
		{[]int{60, 30, 10}, 7, 0, 4, 5},
		{[]int{60, 30, 10}, 7, 1, 2, 3},
		{[]int{60, 30, 10}, 7, 2, 0, 1},
		// Whole shares.
		{[]int{60, 30, 10}, 10, 0, 6, 6},
		{[]int{60, 30, 10}, 10, 1, 3, 3},
		{[]int{60, 30, 10}, 10, 2, 1, 1},
		{[]int{60, 30, 10}, 20, 0, 12, 12},
		{[]int{60, 30, 10}, 5, 0, 3, 3},
		{[]int{60, 30, 10}, 5, 1, 1, 2},
		{[]int{60, 30, 10}, 5, 2, 0, 1},
		// No seats.
		{[]int{60, 30, 10}, 0, 0, 0, 0},
		{[]int{60, 30, 10}, 0, 2, 0, 0},
		{[]int{1}, 0, 0, 0, 0},
		// One party alone.
		{[]int{1}, 1, 0, 1, 1},
		{[]int{1}, 20, 0, 20, 20},
		{[]int{99}, 20, 0, 20, 20},
		// Parties without votes.
		{[]int{0, 1}, 20, 0, 0, 0},
		{[]int{0, 1}, 20, 1, 20, 20},
		{[]int{0, 99, 0, 1, 0}, 20, 4, 0, 0},
		{[]int{0, 99, 0, 1, 0}, 20, 3, 0, 1},
		{[]int{0, 99, 0, 1, 0}, 20, 1, 19, 20},
		{[]int{0, 99, 0, 1, 0}, 1, 1, 0, 1},
		// Just more or less than a whole share.
		{[]int{50, 49}, 2, 0, 1, 2},
		{[]int{50, 49}, 2, 1, 0, 1},
		{[]int{49, 49}, 2, 1, 1, 1},
		{[]int{99, 99, 99, 99, 98}, 5, 0, 1, 2},
		{[]int{99, 99, 99, 99, 98}, 5, 4, 0, 1},
		{[]int{99, 99, 99, 99, 99}, 5, 4, 1, 1},
		{[]int{99, 99, 99, 99, 99}, 19, 0, 3, 4},
		{[]int{99, 99, 99, 99, 99}, 20, 4, 4, 4},
	} {
		if low, high := impl.SeatsQuota(e.votes, e.seats, e.party); low != e.low || high != e.high {
			t.Errorf("SeatsQuota(%v, %d, %d) returned %d and %d, not %d and %d", e.votes, e.seats, e.party, low, high, e.low, e.high)
		}
		// What is due is right, too.
		if due := dueShareOf(e.votes, e.seats, e.party); due.low != e.low || due.high != e.high {
			t.Errorf("the share of %d in %d seats of %v is due to be %v, not %d and %d", e.party, e.seats, e.votes, due, e.low, e.high)
		}
	}
}

func TestSeatsFairExamples(t *testing.T) {
	for _, e := range []struct {
		votes []int
		given []int
		want  bool
	}{
		// The shares are 4.2, 2.1 and 0.7: rounded down or up, or one less or more.
		{[]int{60, 30, 10}, []int{4, 2, 1}, true},
		{[]int{60, 30, 10}, []int{5, 2, 0}, true},
		{[]int{60, 30, 10}, []int{4, 3, 0}, true},
		{[]int{60, 30, 10}, []int{3, 3, 1}, false},
		{[]int{60, 30, 10}, []int{6, 1, 0}, false},
		{[]int{60, 30, 10}, []int{5, 1, 1}, false},
		{[]int{60, 30, 10}, []int{4, 1, 2}, false},
		{[]int{60, 30, 10}, []int{3, 4, 0}, false},
		// The shares are 3, 1.5 and 0.5.
		{[]int{60, 30, 10}, []int{3, 2, 0}, true},
		{[]int{60, 30, 10}, []int{3, 1, 1}, true},
		{[]int{60, 30, 10}, []int{4, 1, 0}, false},
		{[]int{60, 30, 10}, []int{2, 2, 1}, false},
		{[]int{60, 30, 10}, []int{3, 0, 2}, false},
		// The shares are whole.
		{[]int{60, 30, 10}, []int{6, 3, 1}, true},
		{[]int{60, 30, 10}, []int{7, 2, 1}, false},
		{[]int{60, 30, 10}, []int{6, 4, 0}, false},
		{[]int{60, 30, 10}, []int{5, 3, 2}, false},
		{[]int{60, 30, 10}, []int{12, 6, 2}, true},
		{[]int{60, 30, 10}, []int{13, 6, 1}, false},
		{[]int{60, 30, 10}, []int{20, 0, 0}, false},
		{[]int{99, 99, 99, 99, 99}, []int{4, 4, 4, 4, 4}, true},
		{[]int{99, 99, 99, 99, 99}, []int{4, 4, 4, 3, 5}, false},
		{[]int{99, 99, 99, 99, 99}, []int{4, 4, 4, 3, 4}, true},
		// Nobody has a seat.
		{[]int{60, 30, 10}, []int{0, 0, 0}, true},
		{[]int{1}, []int{0}, true},
		{[]int{0, 0, 0, 0, 99}, []int{0, 0, 0, 0, 0}, true},
		// One seat is everybody's, but for a party without votes.
		{[]int{60, 30, 10}, []int{1, 0, 0}, true},
		{[]int{60, 30, 10}, []int{0, 0, 1}, true},
		{[]int{99, 1}, []int{0, 1}, true},
		{[]int{99, 1}, []int{1, 1}, true},
		{[]int{99, 1}, []int{0, 2}, false},
		{[]int{99, 1, 0}, []int{0, 0, 1}, false},
		{[]int{0, 1}, []int{1, 0}, false},
		{[]int{0, 1}, []int{0, 1}, true},
		{[]int{0, 1}, []int{1, 19}, false},
		{[]int{0, 1}, []int{0, 20}, true},
		// One party alone.
		{[]int{1}, []int{1}, true},
		{[]int{99}, []int{20}, true},
		// Only the last party has too much or too little.
		{[]int{10, 10, 10, 10, 59}, []int{1, 1, 1, 1, 6}, true},
		{[]int{10, 10, 10, 10, 59}, []int{2, 2, 2, 2, 2}, false},
		{[]int{24, 25, 25, 25, 0}, []int{1, 1, 1, 0, 1}, false},
	} {
		if got := impl.SeatsFair(e.votes, e.given); got != e.want {
			t.Errorf("SeatsFair(%v, %v) is %v", e.votes, e.given, got)
		}
		// What is due is right, too.
		if due := isFair(e.votes, e.given); due != e.want {
			t.Errorf("SeatsFair(%v, %v) is due to be %v", e.votes, e.given, due)
		}
	}
}

func TestSeatsRemainderOfManyVotes(t *testing.T) {
	none, some := 0, 0
	eachShareOut(func(votes []int, seats int, lots []int) {
		due := byRemainders(votes, seats, lots)
		if got := mustShareOut(t, votes, seats, lots); !slices.Equal(got, due) {
			t.Fatalf("SeatsRemainder(%v, %d, %v) returned %v, not %v", votes, seats, lots, got, due)
		}
		if slices.ContainsFunc(dueSharesOf(votes, seats), func(s dueShare) bool { return s.rest > 0 }) {
			some++
		} else {
			none++
		}
	})
	if none < 1000 || some < 1000 {
		t.Errorf("no seats are left of %d votes, and some of %d", none, some)
	}
}

func TestSeatsRemainderOfAllOrders(t *testing.T) {
	for n := 1; n <= 5; n++ {
		for i, votes := range slices.Concat(listsOf(0, 2, n), listsOf(49, 50, n), listsOf(98, 99, n)) {
			if len(votes) != n || !areVotes(votes) {
				continue
			}
			seats := i % 21
			for _, lots := range ordersOf(n) {
				due := byRemainders(votes, seats, lots)
				if got := mustShareOut(t, votes, seats, lots); !slices.Equal(got, due) {
					t.Fatalf("SeatsRemainder(%v, %d, %v) returned %v, not %v", votes, seats, lots, got, due)
				}
			}
		}
	}
}

func TestSeatsQuotaOfManyVotes(t *testing.T) {
	whole, between := 0, 0
	eachQuota(func(votes []int, seats int, party int) {
		due := dueShareOf(votes, seats, party)
		if low, high := impl.SeatsQuota(votes, seats, party); low != due.low || high != due.high {
			t.Fatalf("SeatsQuota(%v, %d, %d) returned %d and %d, not %d and %d", votes, seats, party, low, high, due.low, due.high)
		}
		if due.low == due.high {
			whole++
		} else {
			between++
		}
	})
	if whole < 1000 || between < 1000 {
		t.Errorf("%d shares are whole, and %d are not", whole, between)
	}
}

func TestSeatsFairOfManyGivenSeats(t *testing.T) {
	fair, unfair, full := 0, 0, 0
	check := func(votes []int, given []int) {
		due := isFair(votes, given)
		if got := impl.SeatsFair(votes, given); got != due {
			t.Fatalf("SeatsFair(%v, %v) is %v", votes, given, got)
		}
		if due {
			fair++
		} else {
			unfair++
		}
		if sumOfCounts(given) == 20 {
			full++
		}
	}
	eachMoved(check)
	eachGiven(func(votes []int, given []int, method int, lots []int) { check(votes, given) })
	if fair < 10000 || unfair < 10000 || full < 10000 {
		t.Errorf("%d seats are fair, %d are not, and %d are SeatMax together", fair, unfair, full)
	}
}

func TestRemaindersOfAllVotesOfTwoParties(t *testing.T) {
	for x := 0; x <= 99; x++ {
		for y := 0; y <= 99; y++ {
			votes := []int{x, y}
			for seats := (x + y) % 3; seats <= 20; seats += 3 {
				given := []int{seats * x / max(1, x+y), 0}
				given[1] = seats - given[0]
				if !areVotes(votes) {
					checkNoRemainders(t, votes, seats, []int{0, 1})
					checkNoQuota(t, votes, seats, 0)
					checkNotFair(t, votes, given)
					continue
				}
				for _, lots := range ordersOf(2) {
					if got, due := mustShareOut(t, votes, seats, lots), byRemainders(votes, seats, lots); !slices.Equal(got, due) {
						t.Fatalf("SeatsRemainder(%v, %d, %v) returned %v, not %v", votes, seats, lots, got, due)
					}
				}
				for party := range 2 {
					due := dueShareOf(votes, seats, party)
					if low, high := impl.SeatsQuota(votes, seats, party); low != due.low || high != due.high {
						t.Fatalf("SeatsQuota(%v, %d, %d) returned %d and %d, not %v", votes, seats, party, low, high, due)
					}
				}
				// What one party has too little, the other one has too much.
				if !impl.SeatsFair(votes, given) {
					t.Fatalf("SeatsFair(%v, %v) is false", votes, given)
				}
			}
		}
	}
}

func TestRemaindersOfInvalidVotes(t *testing.T) {
	for _, votes := range invalidVotes() {
		n := len(votes)
		// There are valid lots of as many parties, if these are not too many; others are tried, too.
		for _, lots := range [][]int{allOf(n), allOf(min(max(n, 1), 5)), {0}, {1, 0}, nil} {
			for _, seats := range []int{0, 1, 5, 20} {
				checkNoRemainders(t, votes, seats, lots)
			}
		}
		for _, seats := range []int{0, 1, 5, 20} {
			for _, party := range []int{-1, 0, 1, n - 1, n} {
				checkNoQuota(t, votes, seats, party)
			}
		}
		given := make([]int, n)
		checkNotFair(t, votes, given)
		for party := range min(n, 6) {
			given[party]++
			checkNotFair(t, votes, given)
		}
		for party := range min(n, 6) {
			given[party] += 2
			checkNotFair(t, votes, given)
		}
	}
}

func TestRemaindersOfInvalidLots(t *testing.T) {
	for n := 1; n <= 5; n++ {
		// Valid lots of another number of parties are invalid here.
		lists := slices.Concat(invalidLots(), slices.DeleteFunc(allOrders(), func(lots []int) bool { return len(lots) == n }))
		for _, lots := range lists {
			for _, votes := range [][]int{slices.Repeat([]int{1}, n), slices.Repeat([]int{99}, n), []int{60, 30, 0, 10, 5}[:n]} {
				// Without seats that are left, nobody asks for a lot, but they are still invalid.
				for _, seats := range []int{0, 1, n, 20} {
					checkNoRemainders(t, votes, seats, lots)
				}
			}
		}
	}
}

func TestRemaindersOfInvalidNumbersOfSeats(t *testing.T) {
	for _, seats := range badPartySeats {
		for i, votes := range manyVotes() {
			if i%7 == 0 {
				checkNoRemainders(t, votes, seats, allOf(len(votes)))
				checkNoQuota(t, votes, seats, i%len(votes))
			}
		}
	}
}

func TestQuotaOfInvalidParties(t *testing.T) {
	for i, votes := range manyVotes() {
		n := len(votes)
		checkNoQuota(t, votes, i%21, n)
		for _, party := range badParties {
			checkNoQuota(t, votes, i%21, party)
			checkNoQuota(t, votes, 0, party)
		}
		for party := n; party < 9; party++ {
			checkNoQuota(t, votes, 20-i%21, party)
		}
	}
}

func TestFairOfInvalidGivenSeats(t *testing.T) {
	for n := 1; n <= 5; n++ {
		for _, given := range invalidGiven(n) {
			for _, votes := range [][]int{slices.Repeat([]int{1}, n), slices.Repeat([]int{99}, n), []int{60, 30, 0, 10, 5}[:n]} {
				checkNotFair(t, votes, given)
			}
		}
		// These would be fair, but they are more than SeatMax together, or there is a number too many or too few.
		for many := 21/n + 1; many <= 20; many++ {
			checkNotFair(t, slices.Repeat([]int{many}, n), slices.Repeat([]int{many}, n))
		}
		checkNotFair(t, slices.Repeat([]int{2}, n), slices.Repeat([]int{2}, n+1))
		checkNotFair(t, slices.Repeat([]int{2}, n), slices.Repeat([]int{2}, n-1))
		checkNotFair(t, slices.Repeat([]int{2}, n), append(slices.Repeat([]int{2}, n), 0))
		checkNotFair(t, slices.Repeat([]int{2}, n), slices.Repeat([]int{-2}, n))
	}
	checkNotFair(t, []int{99}, []int{21})
	checkNotFair(t, []int{60, 30, 10}, []int{60, 30, 10})
	checkNotFair(t, []int{60, 30, 10}, []int{-6, -3, -1})
	checkNotFair(t, []int{7, 0}, []int{21, 0})
	checkNotFair(t, []int{11, 10}, []int{11, 10})
}

func TestPromise90AllSeatsAreGivenFairly(t *testing.T) {
	without, alone, none := 0, 0, 0
	eachShareOut(func(votes []int, seats int, lots []int) {
		got := mustShareOut(t, votes, seats, lots)
		if sumOfCounts(got) != seats || !impl.SeatsFair(votes, got) || !isFair(votes, got) {
			t.Fatalf("SeatsRemainder(%v, %d, %v) returned %v", votes, seats, lots, got)
		}
		for party, many := range got {
			if votes[party] == 0 && many != 0 {
				t.Fatalf("SeatsRemainder(%v, %d, %v) returned %v", votes, seats, lots, got)
			}
		}
		if slices.Contains(votes, 0) {
			without++
		}
		if len(votes) == 1 {
			alone++
		}
		if seats == 0 {
			none++
		}
	})
	if without < 1000 || alone < 1000 || none < 1000 {
		t.Errorf("there are parties without votes %d times, one alone %d times, and no seats %d times", without, alone, none)
	}
}

// checkRounding tells if a party whose share was rounded down has a greater remainder than one whose share was rounded up, or the same one and an earlier lot. It returns how many times it is the same one.
func checkRounding(t *testing.T, votes []int, seats int, lots []int) int {
	t.Helper()
	got, all, same := mustShareOut(t, votes, seats, lots), sumOfCounts(votes), 0
	for _, down := range lots {
		for _, up := range lots {
			lack, excess := votes[down]*seats-got[down]*all, got[up]*all-votes[up]*seats
			if lack <= 0 || excess <= 0 {
				continue
			}
			// What is lacking to a share that was rounded down is its remainder.
			mine, theirs := lack, all-excess
			if mine > theirs || mine == theirs && slices.Index(lots, down) < slices.Index(lots, up) {
				t.Fatalf("SeatsRemainder(%v, %d, %v) returned %v, though the remainder of %d comes ahead of that of %d", votes, seats, lots, got, down, up)
			}
			if mine == theirs {
				same++
			}
		}
	}
	return same
}

func TestPromise91NoGreaterRemainderIsRoundedDown(t *testing.T) {
	same := 0
	eachShareOut(func(votes []int, seats int, lots []int) {
		same += checkRounding(t, votes, seats, lots)
	})
	if same < 10000 {
		t.Errorf("only %d remainders are the same", same)
	}
}

func TestPromise91EachLotDecides(t *testing.T) {
	for n := 2; n <= 5; n++ {
		for _, some := range masksOf(n) {
			for _, both := range [][]int{{1, 0}, {2, 1}, {3, 1}, {9, 4}, {50, 49}, {99, 98}, {99, 1}, {99, 0}} {
				votes := make([]int, n)
				for party, one := range some {
					votes[party] = both[1]
					if one {
						votes[party] = both[0]
					}
				}
				if !slices.Contains(some, true) {
					continue
				}
				for _, lots := range ordersOf(n) {
					for _, seats := range []int{1, 2, 3, 4, 19, 20} {
						checkRounding(t, votes, seats, lots)
					}
					// Those of some have the greatest remainder of a single seat.
					got, want := mustShareOut(t, votes, 1, lots), make([]int, n)
					want[impl.LotsFirst(lots, some)] = 1
					if !slices.Equal(got, want) {
						t.Fatalf("SeatsRemainder(%v, 1, %v) returned %v, not %v", votes, lots, got, want)
					}
				}
			}
		}
	}
}

func TestPromise91EachLotDecidesOfOtherVotes(t *testing.T) {
	for _, e := range []struct {
		votes []int
		seats int
		whole []int
		left  int
	}{
		{[]int{3, 1}, 2, []int{1, 0}, 1},
		{[]int{7, 4, 1}, 4, []int{2, 1, 0}, 1},
		{[]int{8, 5, 2}, 5, []int{2, 1, 0}, 2},
		{[]int{1, 5, 9, 1}, 4, []int{0, 1, 2, 0}, 1},
		{[]int{3, 3, 7, 11}, 6, []int{0, 0, 1, 2}, 3},
		{[]int{1, 6, 11, 16, 16}, 10, []int{0, 1, 2, 3, 3}, 1},
		{[]int{1, 6, 11, 16, 16}, 20, []int{0, 2, 4, 6, 6}, 2},
		{[]int{3, 8, 13, 13, 13}, 10, []int{0, 1, 2, 2, 2}, 3},
		{[]int{4, 4, 9, 14, 19}, 10, []int{0, 0, 1, 2, 3}, 4},
	} {
		for _, lots := range ordersOf(len(e.votes)) {
			// All have the same remainder.
			want := slices.Clone(e.whole)
			for _, party := range lots[:e.left] {
				want[party]++
			}
			if got := mustShareOut(t, e.votes, e.seats, lots); !slices.Equal(got, want) {
				t.Fatalf("SeatsRemainder(%v, %d, %v) returned %v, not %v", e.votes, e.seats, lots, got, want)
			}
			checkRounding(t, e.votes, e.seats, lots)
		}
	}
}

func TestPromise92NoFewerSeatsForMoreVotes(t *testing.T) {
	more, same, oneMore := 0, 0, 0
	eachShareOut(func(votes []int, seats int, lots []int) {
		got := mustShareOut(t, votes, seats, lots)
		for i, x := range lots {
			// The lot of x is ahead of that of y, or they are the same.
			for _, y := range lots[i:] {
				ahead := got[x] - got[y]
				switch {
				case votes[x] > votes[y] && ahead < 0, votes[x] < votes[y] && ahead > 0, votes[x] == votes[y] && ahead != 0 && ahead != 1:
					t.Fatalf("SeatsRemainder(%v, %d, %v) returned %v", votes, seats, lots, got)
				case votes[x] != votes[y]:
					more++
				case ahead == 0:
					same++
				default:
					oneMore++
				}
			}
		}
	})
	if more < 1000 || same < 1000 || oneMore < 1000 {
		t.Errorf("%d parties have other votes, %d as many votes and seats, and %d as many votes and a seat more", more, same, oneMore)
	}
}

func TestPromise93WholeSharesAreGiven(t *testing.T) {
	all, some := 0, 0
	eachShareOut(func(votes []int, seats int, lots []int) {
		got, total, whole := mustShareOut(t, votes, seats, lots), sumOfCounts(votes), 0
		for party, many := range got {
			if votes[party]*seats%total != 0 {
				continue
			}
			// A whole share is given exactly, also if those of others are not whole.
			if many*total != votes[party]*seats {
				t.Fatalf("SeatsRemainder(%v, %d, %v) returned %v, though the share of %d is whole", votes, seats, lots, got, party)
			}
			whole++
		}
		if whole == len(votes) && seats > 0 && len(votes) > 1 {
			all++
		} else if whole > 0 && seats > 0 && whole < len(votes) {
			some++
		}
	})
	if all < 1000 || some < 1000 {
		t.Errorf("all shares are whole %d times, and some of them %d times", all, some)
	}
}

func TestPromise93AllWholeShares(t *testing.T) {
	// Votes that are a multiple of the seats have these as shares.
	for n := 1; n <= 5; n++ {
		for i, want := range manyGiven(n) {
			seats, most := sumOfCounts(want), slices.Max(want)
			if seats == 0 {
				continue
			}
			orders := ordersOf(n)
			for factor := 1; factor*most <= 99; factor += 1 + factor {
				votes := []int{}
				for _, many := range want {
					votes = append(votes, factor*many)
				}
				if got := mustShareOut(t, votes, seats, orders[i%len(orders)]); !slices.Equal(got, want) {
					t.Fatalf("SeatsRemainder(%v, %d, %v) returned %v", votes, seats, orders[i%len(orders)], got)
				}
				if !impl.SeatsFair(votes, want) {
					t.Fatalf("SeatsFair(%v, %v) is false", votes, want)
				}
			}
		}
	}
}

func TestPromise94TheShareIsBetweenBothNumbers(t *testing.T) {
	same, other := 0, 0
	eachQuota(func(votes []int, seats int, party int) {
		low, high := mustHaveQuota(t, votes, seats, party)
		all := sumOfCounts(votes)
		if low*all > votes[party]*seats || high*all < votes[party]*seats || high-low < 0 || high-low > 1 {
			t.Fatalf("SeatsQuota(%v, %d, %d) returned %d and %d", votes, seats, party, low, high)
		}
		if low == high {
			same++
		} else {
			other++
			// Only one number can be both if the share is whole.
			if low*all == votes[party]*seats || high*all == votes[party]*seats {
				t.Fatalf("SeatsQuota(%v, %d, %d) returned %d and %d, though one of these is the share", votes, seats, party, low, high)
			}
		}
	})
	if same < 1000 || other < 1000 {
		t.Errorf("both numbers are the same %d times, and differ %d times", same, other)
	}
}

func TestPromise95AllSeatsAreBetweenBothSums(t *testing.T) {
	same, other := 0, 0
	for _, votes := range manyVotes() {
		for seats := 0; seats <= 20; seats++ {
			lows, highs := 0, 0
			for party := range votes {
				low, high := mustHaveQuota(t, votes, seats, party)
				lows += low
				highs += high
			}
			if lows > seats || highs < seats {
				t.Fatalf("the shares of %v in %d seats are together %d rounded down, and %d rounded up", votes, seats, lows, highs)
			}
			if lows == highs {
				same++
			} else if lows < seats && highs > seats {
				other++
			} else {
				t.Fatalf("the shares of %v in %d seats are together %d rounded down, and %d rounded up, though some are not whole", votes, seats, lows, highs)
			}
		}
	}
	if same < 1000 || other < 1000 {
		t.Errorf("both sums are the same %d times, and differ %d times", same, other)
	}
}

func TestPromise96FairSeatsAreBetweenBothNumbers(t *testing.T) {
	fair, unfair, none := 0, 0, 0
	check := func(votes []int, given []int) {
		between, seats := true, sumOfCounts(given)
		for party, many := range given {
			low, high := mustHaveQuota(t, votes, seats, party)
			between = between && low <= many && many <= high
		}
		if got := impl.SeatsFair(votes, given); got != between {
			t.Fatalf("SeatsFair(%v, %v) is %v", votes, given, got)
		}
		if between {
			fair++
		} else {
			unfair++
		}
		if seats == 0 {
			none++
		}
	}
	eachMoved(check)
	eachGiven(func(votes []int, given []int, method int, lots []int) { check(votes, given) })
	if fair < 10000 || unfair < 10000 || none < 1000 {
		t.Errorf("%d seats are fair, %d are not, and nobody has one %d times", fair, unfair, none)
	}
}

func TestPromise96EachRounding(t *testing.T) {
	// For all parties, the share rounded down, rounded up, one less and one more is tried.
	checked := 0
	for i, votes := range manyVotes() {
		if i%5 != 0 {
			continue
		}
		for seats := 0; seats <= 20; seats++ {
			shares := dueSharesOf(votes, seats)
			for _, steps := range listsOf(-1, 2, min(len(votes), 3)) {
				given, between := make([]int, len(votes)), true
				for party, s := range shares {
					step := 0
					if party < len(steps) {
						step = steps[party]
					}
					given[party] = s.low + step
					between = between && (given[party] == s.low || given[party] == s.high)
				}
				if !areGiven(given, len(votes)) || sumOfCounts(given) != seats {
					continue
				}
				checked++
				if got := impl.SeatsFair(votes, given); got != between {
					t.Fatalf("SeatsFair(%v, %v) is %v", votes, given, got)
				}
			}
		}
	}
	if checked < 10000 {
		t.Errorf("only %d seats were checked", checked)
	}
}

func TestRemaindersArgumentsAreNotChanged(t *testing.T) {
	lists := slices.Concat(manyVotes(), invalidVotes())
	for i, votes := range lists {
		n := len(votes)
		for _, given := range [][]int{make([]int, n), slices.Repeat([]int{4}, n), slices.Repeat([]int{-1}, n), slices.Repeat([]int{3}, n+1)} {
			// What is in the spare capacity belongs to the caller, too.
			own := [][]int{append(slices.Clone(votes), 41, 42), append(slices.Clone(given), 43, 44), append(allOf(n), 45, 46)}
			slices.Reverse(own[2][:n])
			kept := [][]int{slices.Clone(own[0]), slices.Clone(own[1]), slices.Clone(own[2])}
			impl.SeatsRemainder(own[0][:n], i%21, own[2][:n])
			impl.SeatsQuota(own[0][:n], i%21, i%6)
			impl.SeatsFair(own[0][:n], own[1][:len(given)])
			if !sameTable(own, kept) {
				t.Fatalf("%.300v have become %.300v", kept, own)
			}
		}
	}
}

func TestRemaindersShareNoMemory(t *testing.T) {
	eachShareOut(func(votes []int, seats int, lots []int) {
		ownVotes, ownLots := slices.Clone(votes), slices.Clone(lots)
		first, second := mustShareOut(t, ownVotes, seats, ownLots), mustShareOut(t, ownVotes, seats, ownLots)
		kept := slices.Clone(second)
		spoil(first)
		if !slices.Equal(ownVotes, votes) || !slices.Equal(ownLots, lots) {
			t.Fatalf("%v and %v have become %v and %v", votes, lots, ownVotes, ownLots)
		}
		// Nothing reads the arguments any more.
		spoil(ownVotes)
		spoil(ownLots)
		if third := mustShareOut(t, votes, seats, lots); !slices.Equal(second, kept) || !slices.Equal(third, kept) {
			t.Fatalf("SeatsRemainder(%v, %d, %v) returned %v, then %v and %v", votes, seats, lots, kept, second, third)
		}
	})
}

func TestRemaindersAreTheSameAtTheSameTime(t *testing.T) {
	votes, lots := []int{60, 30, 0, 60, 10}, []int{4, 3, 2, 1, 0}
	// All votes are 160: the shares of 10 seats are 3.75, 1.875, 0, 3.75 and 0.625, and those of 9 seats 3.375, 1.6875, 0, 3.375 and 0.5625.
	wants := map[int][]int{10: {4, 2, 0, 4, 0}, 9: {3, 2, 0, 3, 1}}
	var callers sync.WaitGroup
	for k := range 8 {
		seats := 9 + k%2
		callers.Go(func() {
			for range 200 {
				if got, ok := impl.SeatsRemainder(votes, seats, lots); !ok || !slices.Equal(got, wants[seats]) {
					t.Errorf("SeatsRemainder was %v, then %v", wants[seats], got)
				}
				if low, high := impl.SeatsQuota(votes, seats, 0); low != 3 || high != 4 || !impl.SeatsFair(votes, wants[seats]) {
					t.Error("the share has changed, or what SeatsFair tells of the seats")
				}
			}
		})
	}
	callers.Wait()
}
