package tests

import (
	"cmp"
	"math"
	"slices"
	"sync"
	"testing"

	"loop.example/tallyaudit/impl"
)

// badMethods are never a method of divisors.
var badMethods = []int{math.MinInt, math.MinInt32, -256, -3, -2, -1, 0, 3, 4, 5, 12, 20, 99, 255, 257, 258, math.MaxInt32, math.MaxInt - 1, math.MaxInt}

// badVotes are never the votes of a party.
var badVotes = []int{math.MinInt, math.MinInt + 1, math.MinInt32, -256, -100, -99, -2, -1, 100, 101, 198, 255, 256, 999, math.MaxInt32, math.MaxInt - 1, math.MaxInt}

// badPartySeats are never the seats of a party, nor those of all parties.
var badPartySeats = []int{math.MinInt, math.MinInt + 1, math.MinInt32, -256, -21, -20, -2, -1, 21, 22, 40, 41, 99, 256, math.MaxInt32, math.MaxInt - 1, math.MaxInt}

// bothMethods are the methods of divisors.
var bothMethods = []int{impl.SeatsWhole, impl.SeatsOdd}

// divisorsOf returns the divisors of a method for 0 to 20 seats.
func divisorsOf(method int) []int {
	if method == 1 {
		return []int{1, 2, 3, 4, 5, 6, 7, 8, 9, 10, 11, 12, 13, 14, 15, 16, 17, 18, 19, 20, 21}
	}
	return []int{1, 3, 5, 7, 9, 11, 13, 15, 17, 19, 21, 23, 25, 27, 29, 31, 33, 35, 37, 39, 41}
}

// areVotes is the document's definition of valid votes, in other words.
func areVotes(votes []int) bool {
	sorted := slices.Sorted(slices.Values(votes))
	n := len(sorted)
	return n >= 1 && n <= 5 && sorted[0] >= 0 && sorted[n-1] >= 1 && sorted[n-1] <= 99
}

// areGiven is the document's definition of seats of n parties that were given, in other words.
func areGiven(given []int, n int) bool {
	left := 20
	for _, seats := range given {
		if seats < 0 || seats > left {
			return false
		}
		left -= seats
	}
	return len(given) == n
}

// claim is the claim of a party to one seat: its votes, and the divisor for this seat.
type claim struct {
	party, votes, divisor int
}

// byQuotient compares the quotients of two claims, not rounded.
func byQuotient(a claim, b claim) int {
	return cmp.Compare(a.votes*b.divisor, b.votes*a.divisor)
}

// claimsOf returns the claims of all parties, in the order of the lots: to the next seat behind those that were given, or to those before this one.
func claimsOf(votes []int, given []int, method int, lots []int, before int) []claim {
	claims := []claim{}
	for _, party := range lots {
		if index := given[party] - before; index >= 0 {
			claims = append(claims, claim{party, votes[party], divisorsOf(method)[index]})
		}
	}
	return claims
}

// inOrder is what the document says of SeatsDivisor for valid arguments, in other words: the parties that get the first 21 seats, found among all claims to all seats of all parties.
func inOrder(votes []int, method int, lots []int) []int {
	claims := []claim{}
	for _, party := range lots {
		for _, divisor := range divisorsOf(method) {
			claims = append(claims, claim{party, votes[party], divisor})
		}
	}
	// Equal ones stay in the order of the lots.
	slices.SortStableFunc(claims, func(a claim, b claim) int { return byQuotient(b, a) })
	parties := []int{}
	for _, c := range claims[:21] {
		parties = append(parties, c.party)
	}
	return parties
}

// seatsOf returns how often each of n parties is among some.
func seatsOf(parties []int, n int) []int {
	seats := make([]int, n)
	for _, party := range parties {
		seats[party]++
	}
	return seats
}

// nextOf is what the document says of SeatsNext for valid arguments, in other words.
func nextOf(votes []int, given []int, method int, lots []int) int {
	// The first one of several ones is found.
	return slices.MaxFunc(claimsOf(votes, given, method, lots, 0), byQuotient).party
}

// isCertified is what the document says of SeatsCheck for valid arguments, in other words: the least quotient that was used is not less than the greatest one that was not.
func isCertified(votes []int, given []int, method int) bool {
	order := allOf(len(votes))
	used := claimsOf(votes, given, method, order, 1)
	if len(used) == 0 {
		return true
	}
	unused := claimsOf(votes, given, method, order, 0)
	return byQuotient(slices.MinFunc(used, byQuotient), slices.MaxFunc(unused, byQuotient)) >= 0
}

// mustSeat returns the seats of valid arguments, without a look at what is due.
func mustSeat(t *testing.T, votes []int, seats int, method int, lots []int) []int {
	t.Helper()
	got, ok := impl.SeatsDivisor(votes, seats, method, lots)
	if !ok || len(got) != len(votes) || slices.Min(got) < 0 {
		t.Fatalf("SeatsDivisor(%v, %d, %d, %v) returned %v, %v", votes, seats, method, lots, got, ok)
	}
	return got
}

// mustBeNext returns the party of the next seat of valid arguments, without a look at what is due.
func mustBeNext(t *testing.T, votes []int, given []int, method int, lots []int) int {
	t.Helper()
	next := impl.SeatsNext(votes, given, method, lots)
	if next < 0 || next >= len(votes) {
		t.Fatalf("SeatsNext(%v, %v, %d, %v) returned %d", votes, given, method, lots, next)
	}
	return next
}

// checkNoSeats tells if there are seats.
func checkNoSeats(t *testing.T, votes []int, seats int, method int, lots []int) {
	t.Helper()
	if got, ok := impl.SeatsDivisor(votes, seats, method, lots); ok || len(got) != 0 {
		t.Fatalf("SeatsDivisor(%.100v, %d, %d, %.100v) returned %v, %v", votes, seats, method, lots, got, ok)
	}
}

// checkNoNext tells if there is a next party.
func checkNoNext(t *testing.T, votes []int, given []int, method int, lots []int) {
	t.Helper()
	if next := impl.SeatsNext(votes, given, method, lots); next != -1 {
		t.Fatalf("SeatsNext(%.100v, %.100v, %d, %.100v) returned %d", votes, given, method, lots, next)
	}
}

// checkNoCertificate tells if given seats hold.
func checkNoCertificate(t *testing.T, votes []int, given []int, method int) {
	t.Helper()
	if impl.SeatsCheck(votes, given, method) {
		t.Fatalf("SeatsCheck(%.100v, %.100v, %d) is true", votes, given, method)
	}
}

// manyVotes returns valid votes: all small ones, and others up to 99, many of them with equal quotients or without votes.
func manyVotes() [][]int {
	lists := slices.Concat(listsOf(0, 3, 5), listsOf(0, 9, 2), listsOf(0, 6, 3))
	next := numbers(21)
	for n := 1; n <= 5; n++ {
		for k := range 200 {
			votes := []int{}
			for range n {
				// Multiples of a number have equal quotients.
				factor := []int{1, 33, 1, 11, 7}[k%5]
				votes = append(votes, factor*next.below(1+99/factor))
			}
			lists = append(lists, votes)
		}
		for _, most := range []int{49, 50, 98, 99} {
			for _, other := range []int{0, 1, 2, 3, 5, 9, 33, 49, 50, 98, 99} {
				for some := 1; some <= n; some++ {
					lists = append(lists, append(slices.Repeat([]int{most}, some), slices.Repeat([]int{other}, n-some)...))
				}
			}
		}
	}
	return slices.DeleteFunc(lists, func(votes []int) bool { return !areVotes(votes) })
}

// eachSeating calls a check with many votes, both methods and many lots.
func eachSeating(check func(votes []int, method int, lots []int)) {
	for i, votes := range manyVotes() {
		orders := ordersOf(len(votes))
		for _, method := range bothMethods {
			for k := range min(3, len(orders)) {
				check(votes, method, orders[(7*i+k*(1+len(orders)/3))%len(orders)])
			}
		}
	}
}

// manyGiven returns many seats of n parties that were given: all small ones, and others whose sum is 20 or less.
func manyGiven(n int) [][]int {
	lists := listsOf(0, 3, n)
	next := numbers(20 + n)
	for k := range 60 {
		given := make([]int, n)
		for range 20 - k%3*next.below(20) {
			given[min(next.below(n), next.below(n))]++
		}
		lists = append(lists, given)
	}
	for party := range n {
		for _, seats := range []int{1, 5, 19, 20} {
			given := make([]int, n)
			given[party] = seats
			given[(party+1)%n] += 20 - seats
			lists = append(lists, given)
		}
	}
	return slices.DeleteFunc(lists, func(given []int) bool { return !areGiven(given, n) })
}

// eachGiven calls a check with many votes, many given seats, both methods and many lots.
func eachGiven(check func(votes []int, given []int, method int, lots []int)) {
	lists, orders := map[int][][]int{}, map[int][][]int{}
	for n := 1; n <= 5; n++ {
		lists[n], orders[n] = manyGiven(n), ordersOf(n)
	}
	for i, votes := range manyVotes() {
		some, all := lists[len(votes)], orders[len(votes)]
		for k := range min(len(some), 40) {
			check(votes, some[(11*i+k*(1+len(some)/40))%len(some)], bothMethods[(i+k)%2], all[(i+7*k)%len(all)])
		}
	}
}

// eachCertified calls a check with many votes, seats that were given one after the other by many lots, both methods, and other lots.
func eachCertified(check func(votes []int, given []int, method int, lots []int)) {
	orders := map[int][][]int{}
	for n := 1; n <= 5; n++ {
		orders[n] = ordersOf(n)
	}
	for i, votes := range manyVotes() {
		all := orders[len(votes)]
		for _, method := range bothMethods {
			for seats := 0; seats <= 20; seats++ {
				parties := inOrder(votes, method, all[(7*i+seats)%len(all)])
				check(votes, seatsOf(parties[:seats], len(votes)), method, all[(i+5*seats)%len(all)])
			}
		}
	}
}

// seatsExample is what was found by hand for votes.
type seatsExample struct {
	votes  []int
	seats  int
	method int
	lots   []int
	want   []int
}

// checkSeats checks examples of seats.
func checkSeats(t *testing.T, examples []seatsExample) {
	t.Helper()
	for _, e := range examples {
		if got, ok := impl.SeatsDivisor(e.votes, e.seats, e.method, e.lots); !ok || !slices.Equal(got, e.want) {
			t.Errorf("SeatsDivisor(%v, %d, %d, %v) returned %v, %v, not %v", e.votes, e.seats, e.method, e.lots, got, ok, e.want)
		}
		// What is due is right, too.
		if due := seatsOf(inOrder(e.votes, e.method, e.lots)[:e.seats], len(e.votes)); !slices.Equal(due, e.want) {
			t.Errorf("%d seats of %v by method %d and lots %v are due to be %v, not %v", e.seats, e.votes, e.method, e.lots, due, e.want)
		}
	}
}

func TestSeatsConstants(t *testing.T) {
	if impl.SeatMax != 20 || impl.SeatsWhole != 1 || impl.SeatsOdd != 2 {
		t.Errorf("SeatMax is %d, SeatsWhole %d, and SeatsOdd %d", impl.SeatMax, impl.SeatsWhole, impl.SeatsOdd)
	}
}

func TestSeatsDivisorExamples(t *testing.T) {
	checkSeats(t, []seatsExample{
		// Quotients by 1, 2, 3 and so on.
		{[]int{60, 30, 10}, 5, 1, []int{0, 1, 2}, []int{4, 1, 0}},
		{[]int{60, 30, 10}, 5, 1, []int{1, 0, 2}, []int{3, 2, 0}},
		{[]int{60, 30, 10}, 2, 1, []int{0, 1, 2}, []int{2, 0, 0}},
		{[]int{60, 30, 10}, 2, 1, []int{2, 1, 0}, []int{1, 1, 0}},
		{[]int{60, 30, 10}, 10, 1, []int{2, 1, 0}, []int{6, 3, 1}},
		{[]int{60, 30, 10}, 20, 1, []int{2, 1, 0}, []int{12, 6, 2}},
		{[]int{50, 40, 15, 10}, 8, 1, []int{0, 1, 2, 3}, []int{4, 3, 1, 0}},
		{[]int{53, 24, 23}, 7, 1, []int{2, 1, 0}, []int{4, 2, 1}},
		{[]int{30, 20, 10}, 6, 1, []int{1, 2, 0}, []int{3, 2, 1}},
		{[]int{99, 5}, 19, 1, []int{1, 0}, []int{19, 0}},
		{[]int{99, 5}, 20, 1, []int{0, 1}, []int{19, 1}},
		// Quotients by 1, 3, 5 and so on.
		{[]int{60, 30, 10}, 5, 2, []int{0, 1, 2}, []int{3, 2, 0}},
		{[]int{60, 30, 10}, 5, 2, []int{2, 1, 0}, []int{3, 1, 1}},
		{[]int{60, 30, 10}, 10, 2, []int{2, 1, 0}, []int{6, 3, 1}},
		{[]int{50, 40, 15, 10}, 6, 2, []int{0, 1, 2, 3}, []int{3, 2, 1, 0}},
		{[]int{50, 40, 15, 10}, 6, 2, []int{3, 1, 2, 0}, []int{2, 2, 1, 1}},
		{[]int{50, 40, 15, 10}, 8, 2, []int{0, 1, 2, 3}, []int{3, 3, 1, 1}},
		{[]int{53, 24, 23}, 7, 2, []int{0, 1, 2}, []int{3, 2, 2}},
		{[]int{30, 20, 10}, 6, 2, []int{1, 2, 0}, []int{3, 2, 1}},
		{[]int{99, 5}, 10, 2, []int{1, 0}, []int{10, 0}},
		{[]int{99, 5}, 11, 2, []int{0, 1}, []int{10, 1}},
		{[]int{99, 5}, 20, 2, []int{0, 1}, []int{19, 1}},
	})
}

func TestSeatsDivisorExamplesAtTheEnds(t *testing.T) {
	for _, method := range bothMethods {
		checkSeats(t, []seatsExample{
			// One party alone has all seats.
			{[]int{1}, 0, method, []int{0}, []int{0}},
			{[]int{1}, 1, method, []int{0}, []int{1}},
			{[]int{1}, 20, method, []int{0}, []int{20}},
			{[]int{99}, 20, method, []int{0}, []int{20}},
			// There are no seats.
			{[]int{99, 1}, 0, method, []int{1, 0}, []int{0, 0}},
			{[]int{0, 1, 0, 0, 99}, 0, method, []int{3, 0, 1, 4, 2}, []int{0, 0, 0, 0, 0}},
			// Parties without votes get nothing.
			{[]int{0, 1}, 20, method, []int{0, 1}, []int{0, 20}},
			{[]int{1, 0}, 20, method, []int{1, 0}, []int{20, 0}},
			{[]int{0, 99, 0}, 20, method, []int{2, 0, 1}, []int{0, 20, 0}},
			{[]int{0, 0, 0, 0, 1}, 20, method, []int{0, 1, 2, 3, 4}, []int{0, 0, 0, 0, 20}},
			{[]int{0, 7, 0, 7, 0}, 19, method, []int{0, 2, 4, 3, 1}, []int{0, 9, 0, 10, 0}},
			// The least votes are not enough besides the most ones.
			{[]int{99, 1}, 20, method, []int{1, 0}, []int{20, 0}},
			{[]int{99, 2, 99}, 20, method, []int{1, 0, 2}, []int{10, 0, 10}},
			// Lots decide who has one seat more.
			{[]int{1, 1}, 1, method, []int{0, 1}, []int{1, 0}},
			{[]int{1, 1}, 1, method, []int{1, 0}, []int{0, 1}},
			{[]int{99, 99, 99, 99, 99}, 7, method, []int{3, 1, 4, 0, 2}, []int{1, 2, 1, 2, 1}},
			{[]int{1, 1, 1, 1, 1}, 20, method, []int{3, 1, 4, 0, 2}, []int{4, 4, 4, 4, 4}},
			{[]int{1, 1, 1, 1, 1}, 19, method, []int{3, 1, 4, 0, 2}, []int{4, 4, 3, 4, 4}},
			{[]int{5, 5, 5}, 20, method, []int{2, 0, 1}, []int{7, 6, 7}},
		})
	}
}

func TestSeatsNextExamples(t *testing.T) {
	for _, e := range []struct {
		votes  []int
		given  []int
		method int
		lots   []int
		want   int
	}{
		{[]int{60, 30, 10}, []int{0, 0, 0}, 1, []int{2, 1, 0}, 0},
		{[]int{60, 30, 10}, []int{0, 0, 0}, 2, []int{2, 1, 0}, 0},
		// By 1, 2, 3 and so on, two are equal, and by 1, 3, 5 and so on, two others.
		{[]int{60, 30, 10}, []int{3, 1, 0}, 1, []int{0, 1, 2}, 0},
		{[]int{60, 30, 10}, []int{3, 1, 0}, 1, []int{2, 1, 0}, 1},
		{[]int{60, 30, 10}, []int{3, 1, 0}, 2, []int{0, 1, 2}, 1},
		{[]int{60, 30, 10}, []int{3, 1, 0}, 2, []int{0, 2, 1}, 2},
		// The sum of the seats that were given is SeatMax.
		{[]int{60, 30, 10}, []int{20, 0, 0}, 1, []int{0, 2, 1}, 1},
		{[]int{60, 30, 10}, []int{0, 0, 20}, 2, []int{2, 1, 0}, 0},
		{[]int{60, 30, 10}, []int{10, 5, 5}, 1, []int{1, 0, 2}, 0},
		{[]int{60, 30, 10}, []int{10, 5, 5}, 2, []int{1, 0, 2}, 0},
		{[]int{60, 30, 10}, []int{11, 5, 4}, 1, []int{1, 0, 2}, 1},
		{[]int{60, 30, 10}, []int{11, 5, 4}, 1, []int{2, 0, 1}, 0},
		{[]int{60, 30, 10}, []int{12, 6, 2}, 1, []int{2, 1, 0}, 0},
		{[]int{5, 99}, []int{0, 20}, 1, []int{1, 0}, 0},
		{[]int{4, 99}, []int{0, 20}, 1, []int{0, 1}, 1},
		{[]int{3, 99}, []int{0, 20}, 2, []int{1, 0}, 0},
		{[]int{2, 99}, []int{0, 20}, 2, []int{0, 1}, 1},
		// One party alone gets each seat.
		{[]int{1}, []int{0}, 1, []int{0}, 0},
		{[]int{99}, []int{20}, 2, []int{0}, 0},
		// A party without votes is never next, whatever was given.
		{[]int{0, 1}, []int{0, 20}, 1, []int{0, 1}, 1},
		{[]int{0, 1}, []int{20, 0}, 1, []int{0, 1}, 1},
		{[]int{0, 1}, []int{0, 20}, 2, []int{0, 1}, 1},
		{[]int{0, 0, 1, 0, 0}, []int{0, 0, 20, 0, 0}, 2, []int{4, 3, 1, 0, 2}, 2},
		// Quotients that are not rounded differ, or are equal.
		{[]int{99, 50}, []int{1, 0}, 1, []int{0, 1}, 1},
		{[]int{99, 49}, []int{1, 0}, 1, []int{1, 0}, 0},
		{[]int{98, 49}, []int{1, 0}, 1, []int{1, 0}, 1},
		{[]int{98, 49}, []int{1, 0}, 1, []int{0, 1}, 0},
		{[]int{97, 49}, []int{1, 0}, 1, []int{0, 1}, 1},
		{[]int{98, 33}, []int{1, 0}, 2, []int{0, 1}, 1},
		{[]int{98, 32}, []int{1, 0}, 2, []int{1, 0}, 0},
		{[]int{99, 33}, []int{1, 0}, 2, []int{1, 0}, 1},
		{[]int{99, 33}, []int{1, 0}, 2, []int{0, 1}, 0},
		{[]int{99, 14}, []int{17, 2}, 2, []int{1, 0}, 0},
		{[]int{98, 14}, []int{17, 2}, 2, []int{1, 0}, 1},
		{[]int{98, 14}, []int{17, 2}, 2, []int{0, 1}, 0},
		{[]int{1, 3}, []int{0, 2}, 1, []int{0, 1}, 0},
		{[]int{1, 3}, []int{0, 2}, 1, []int{1, 0}, 1},
		// Fewer seats are no reason alone.
		{[]int{10, 40, 10}, []int{0, 3, 1}, 1, []int{2, 1, 0}, 1},
		{[]int{10, 40, 10}, []int{0, 3, 1}, 2, []int{2, 1, 0}, 0},
	} {
		if got := impl.SeatsNext(e.votes, e.given, e.method, e.lots); got != e.want {
			t.Errorf("SeatsNext(%v, %v, %d, %v) returned %d, not %d", e.votes, e.given, e.method, e.lots, got, e.want)
		}
		// What is due is right, too.
		if due := nextOf(e.votes, e.given, e.method, e.lots); due != e.want {
			t.Errorf("the next one of %v with %v by method %d and lots %v is due to be %d, not %d", e.votes, e.given, e.method, e.lots, due, e.want)
		}
	}
}

func TestSeatsCheckExamples(t *testing.T) {
	for _, e := range []struct {
		votes []int
		given []int
		whole bool
		odd   bool
	}{
		{[]int{60, 30, 10}, []int{0, 0, 0}, true, true},
		{[]int{60, 30, 10}, []int{1, 0, 0}, true, true},
		{[]int{60, 30, 10}, []int{0, 1, 0}, false, false},
		{[]int{60, 30, 10}, []int{0, 0, 1}, false, false},
		{[]int{60, 30, 10}, []int{2, 0, 0}, true, false},
		{[]int{60, 30, 10}, []int{1, 1, 0}, true, true},
		{[]int{60, 30, 10}, []int{2, 1, 0}, true, true},
		{[]int{60, 30, 10}, []int{4, 1, 0}, true, false},
		{[]int{60, 30, 10}, []int{3, 2, 0}, true, true},
		{[]int{60, 30, 10}, []int{3, 1, 1}, false, true},
		{[]int{60, 30, 10}, []int{5, 0, 0}, false, false},
		{[]int{60, 30, 10}, []int{0, 5, 0}, false, false},
		// The sum is SeatMax.
		{[]int{60, 30, 10}, []int{12, 6, 2}, true, true},
		{[]int{60, 30, 10}, []int{13, 5, 2}, false, false},
		{[]int{60, 30, 10}, []int{11, 6, 3}, false, false},
		{[]int{60, 30, 10}, []int{20, 0, 0}, false, false},
		{[]int{99, 4}, []int{20, 0}, true, false},
		{[]int{99, 2}, []int{20, 0}, true, true},
		{[]int{99, 5}, []int{20, 0}, false, false},
		{[]int{99, 5}, []int{19, 1}, true, true},
		// Parties without votes, and one party alone.
		{[]int{0, 5}, []int{0, 0}, true, true},
		{[]int{0, 5}, []int{0, 1}, true, true},
		{[]int{0, 5}, []int{0, 20}, true, true},
		{[]int{0, 5}, []int{1, 0}, false, false},
		{[]int{0, 5}, []int{1, 1}, false, false},
		{[]int{0, 5}, []int{1, 19}, false, false},
		{[]int{0, 1, 0, 99, 0}, []int{0, 0, 0, 20, 0}, true, true},
		{[]int{0, 1, 0, 99, 0}, []int{0, 0, 1, 19, 0}, false, false},
		{[]int{7}, []int{0}, true, true},
		{[]int{7}, []int{1}, true, true},
		{[]int{7}, []int{20}, true, true},
		// The quotients are equal, or differ by less than 1.
		{[]int{98, 49}, []int{2, 0}, true, false},
		{[]int{97, 49}, []int{2, 0}, false, false},
		{[]int{98, 49}, []int{1, 1}, true, true},
		{[]int{99, 49}, []int{1, 1}, false, true},
		{[]int{99, 33}, []int{1, 1}, false, true},
		{[]int{99, 32}, []int{1, 1}, false, false},
		{[]int{99, 33}, []int{2, 0}, true, true},
		{[]int{99, 33}, []int{3, 0}, true, false},
		{[]int{99, 34}, []int{2, 0}, true, false},
	} {
		for i, want := range []bool{e.whole, e.odd} {
			method := bothMethods[i]
			if got := impl.SeatsCheck(e.votes, e.given, method); got != want {
				t.Errorf("SeatsCheck(%v, %v, %d) is %v", e.votes, e.given, method, got)
			}
			// What is due is right, too.
			if due := isCertified(e.votes, e.given, method); due != want {
				t.Errorf("SeatsCheck(%v, %v, %d) is due to be %v", e.votes, e.given, method, due)
			}
		}
	}
}

func TestSeatsDivisorOfManyVotes(t *testing.T) {
	eachSeating(func(votes []int, method int, lots []int) {
		parties := inOrder(votes, method, lots)
		for seats := 0; seats <= 20; seats++ {
			due := seatsOf(parties[:seats], len(votes))
			if got := mustSeat(t, votes, seats, method, lots); !slices.Equal(got, due) {
				t.Fatalf("SeatsDivisor(%v, %d, %d, %v) returned %v, not %v", votes, seats, method, lots, got, due)
			}
			if next := impl.SeatsNext(votes, due, method, lots); next != parties[seats] {
				t.Fatalf("SeatsNext(%v, %v, %d, %v) returned %d, not %d", votes, due, method, lots, next, parties[seats])
			}
		}
	})
}

func TestSeatsOfManyGivenSeats(t *testing.T) {
	held, refused, full := 0, 0, 0
	eachGiven(func(votes []int, given []int, method int, lots []int) {
		if next, due := impl.SeatsNext(votes, given, method, lots), nextOf(votes, given, method, lots); next != due {
			t.Fatalf("SeatsNext(%v, %v, %d, %v) returned %d, not %d", votes, given, method, lots, next, due)
		}
		due := isCertified(votes, given, method)
		if got := impl.SeatsCheck(votes, given, method); got != due {
			t.Fatalf("SeatsCheck(%v, %v, %d) is %v", votes, given, method, got)
		}
		if due {
			held++
		} else {
			refused++
		}
		if sumOfCounts(given) == 20 {
			full++
		}
	})
	if held < 1000 || refused < 1000 || full < 1000 {
		t.Errorf("%d seats hold, %d do not, and %d are SeatMax together", held, refused, full)
	}
}

func TestSeatsOfAllVotesOfTwoParties(t *testing.T) {
	for x := 0; x <= 99; x++ {
		for y := 0; y <= 99; y++ {
			votes := []int{x, y}
			for k := range 5 {
				first := (7*x + 3*y + 4*k) % 21
				given := []int{first, (x + y + 5*k) % (21 - first)}
				for _, method := range bothMethods {
					for _, lots := range ordersOf(2) {
						if !areVotes(votes) {
							checkNoNext(t, votes, given, method, lots)
							checkNoSeats(t, votes, k, method, lots)
						} else if next, due := impl.SeatsNext(votes, given, method, lots), nextOf(votes, given, method, lots); next != due {
							t.Fatalf("SeatsNext(%v, %v, %d, %v) returned %d, not %d", votes, given, method, lots, next, due)
						}
					}
					if got := impl.SeatsCheck(votes, given, method); got != (areVotes(votes) && isCertified(votes, given, method)) {
						t.Fatalf("SeatsCheck(%v, %v, %d) is %v", votes, given, method, got)
					}
				}
			}
		}
	}
}

// invalidVotes returns votes that are invalid: of no party, of too many parties, out of range, or all of them 0.
func invalidVotes() [][]int {
	lists := [][]int{
		nil, {}, {1, 1, 1, 1, 1, 1}, {1, 0, 0, 0, 0, 0}, {0, 0, 0, 0, 0, 1}, {0, 0, 0, 0, 0, 0}, {60, 30, 10, 5, 2, 1, 1}, slices.Repeat([]int{7}, 1000),
		{-1, 1}, {-1, 2, -1}, {-5, 10, 5}, {100, 0}, {0, 100}, {200, -101}, {99, 99, 99, 99, 100}, {math.MaxInt, math.MaxInt, 2}, {math.MinInt, math.MinInt, 1}, {math.MaxInt, math.MinInt, 2},
	}
	for n := 1; n <= 5; n++ {
		lists = append(lists, make([]int, n))
		for party := range n {
			for _, number := range badVotes {
				for _, other := range []int{0, 1, 50, 99} {
					votes := slices.Repeat([]int{other}, n)
					votes[party] = number
					lists = append(lists, votes)
				}
			}
		}
	}
	return lists
}

func TestSeatsOfInvalidVotes(t *testing.T) {
	for _, votes := range invalidVotes() {
		n := len(votes)
		if areVotes(votes) {
			t.Fatalf("%v are valid", votes)
		}
		// There are valid lots of as many parties, if these are not too many; others are tried, too.
		for _, lots := range [][]int{allOf(n), allOf(min(max(n, 1), 5)), {0}, {1, 0}, nil} {
			for _, method := range bothMethods {
				for _, seats := range []int{0, 1, 5, 20} {
					checkNoSeats(t, votes, seats, method, lots)
				}
				given := make([]int, n)
				checkNoNext(t, votes, given, method, lots)
				checkNoCertificate(t, votes, given, method)
				for party := range min(n, 6) {
					given[party]++
					checkNoNext(t, votes, given, method, lots)
					checkNoCertificate(t, votes, given, method)
				}
			}
		}
	}
}

// invalidGiven returns given seats that are invalid for n parties: of another number of parties, out of range, or too many together.
func invalidGiven(n int) [][]int {
	lists := [][]int{slices.Repeat([]int{0}, 1000), make([]int, n+1), make([]int, n-1), append(make([]int, n), 20), append(make([]int, n), 1), slices.Repeat([]int{1}, n+1), slices.Repeat([]int{1}, n-1)}
	for party := range n {
		for _, number := range badPartySeats {
			for _, other := range []int{0, 1, 4} {
				given := slices.Repeat([]int{other}, n)
				given[party] = number
				lists = append(lists, given)
			}
		}
		for k := range n {
			// Each one is in range, but they are too many together.
			for most := 1; most <= 20; most++ {
				given := make([]int, n)
				given[party] = most
				given[k] += 21 - most
				lists = append(lists, given)
			}
			given := make([]int, n)
			given[party], given[k] = math.MaxInt, math.MaxInt
			lists = append(lists, given)
			// Together they are in range, but not each one.
			for _, less := range []int{1, 5, 20} {
				given := slices.Repeat([]int{4}, n)
				given[party] += less
				given[k] = -less
				lists = append(lists, given)
			}
		}
	}
	switch n {
	case 3:
		lists = append(lists, []int{math.MaxInt, math.MaxInt, 2}, []int{2, math.MaxInt, math.MaxInt}, []int{math.MinInt, math.MinInt, 5}, []int{7, 7, 7}, []int{20, 20, 20})
	case 5:
		lists = append(lists, []int{4, 4, 4, 4, 5}, []int{5, 4, 4, 4, 4}, []int{20, 20, 20, 20, 20}, []int{20, 0, 0, 0, 1})
	}
	return lists
}

func TestSeatsOfInvalidGivenSeats(t *testing.T) {
	for n := 1; n <= 5; n++ {
		for _, given := range invalidGiven(n) {
			if areGiven(given, n) {
				t.Fatalf("%v are valid for %d parties", given, n)
			}
			for _, votes := range [][]int{slices.Repeat([]int{1}, n), slices.Repeat([]int{99}, n), []int{60, 30, 0, 10, 5}[:n]} {
				for _, method := range bothMethods {
					for _, lots := range [][]int{allOf(n), allOf(min(max(len(given), 1), 5))} {
						checkNoNext(t, votes, given, method, lots)
					}
					checkNoCertificate(t, votes, given, method)
				}
			}
		}
	}
}

func TestSeatsOfInvalidMethods(t *testing.T) {
	for _, method := range badMethods {
		for i, votes := range manyVotes() {
			if i%17 != 0 {
				continue
			}
			orders := ordersOf(len(votes))
			lots := orders[i%len(orders)]
			checkNoSeats(t, votes, i%21, method, lots)
			for _, given := range [][]int{make([]int, len(votes)), seatsOf(inOrder(votes, 1, lots)[:i%21], len(votes)), seatsOf(inOrder(votes, 2, lots)[:i%21], len(votes))} {
				checkNoNext(t, votes, given, method, lots)
				checkNoCertificate(t, votes, given, method)
			}
		}
	}
}

func TestSeatsOfInvalidLots(t *testing.T) {
	for n := 1; n <= 5; n++ {
		// Valid lots of another number of parties are invalid here.
		lists := slices.Concat(invalidLots(), slices.DeleteFunc(allOrders(), func(lots []int) bool { return len(lots) == n }))
		for _, lots := range lists {
			for _, votes := range [][]int{slices.Repeat([]int{1}, n), []int{60, 30, 0, 10, 5}[:n]} {
				for _, method := range bothMethods {
					// Without seats, nobody asks for a lot, but they are still invalid.
					for _, seats := range []int{0, 1, 20} {
						checkNoSeats(t, votes, seats, method, lots)
					}
					checkNoNext(t, votes, make([]int, n), method, lots)
					checkNoNext(t, votes, slices.Repeat([]int{4}, n), method, lots)
				}
			}
		}
	}
}

func TestSeatsOfInvalidNumbersOfSeats(t *testing.T) {
	for _, seats := range badPartySeats {
		for i, votes := range manyVotes() {
			if i%7 == 0 {
				checkNoSeats(t, votes, seats, bothMethods[i%2], allOf(len(votes)))
			}
		}
	}
}

func TestPromise82AllSeatsAreGiven(t *testing.T) {
	without, alone := 0, 0
	eachSeating(func(votes []int, method int, lots []int) {
		if len(votes) == 1 {
			alone++
		}
		if slices.Contains(votes, 0) {
			without++
		}
		for seats := 0; seats <= 20; seats++ {
			got := mustSeat(t, votes, seats, method, lots)
			if sumOfCounts(got) != seats || !impl.SeatsCheck(votes, got, method) {
				t.Fatalf("SeatsDivisor(%v, %d, %d, %v) returned %v", votes, seats, method, lots, got)
			}
			for party, many := range got {
				if votes[party] == 0 && many != 0 {
					t.Fatalf("SeatsDivisor(%v, %d, %d, %v) returned %v", votes, seats, method, lots, got)
				}
			}
		}
	})
	if without < 1000 || alone < 100 {
		t.Errorf("there are parties without votes %d times, and one alone %d times", without, alone)
	}
}

func TestPromise83OneSeatMore(t *testing.T) {
	eachSeating(func(votes []int, method int, lots []int) {
		before := mustSeat(t, votes, 0, method, lots)
		for seats := 1; seats <= 20; seats++ {
			next := mustBeNext(t, votes, before, method, lots)
			got := mustSeat(t, votes, seats, method, lots)
			before[next]++
			if !slices.Equal(got, before) {
				t.Fatalf("SeatsDivisor(%v, %d, %d, %v) returned %v, not %v", votes, seats, method, lots, got, before)
			}
		}
	})
}

func TestPromise84NoFewerSeatsForMoreVotes(t *testing.T) {
	more, equals, oneMore := 0, 0, 0
	eachSeating(func(votes []int, method int, lots []int) {
		for seats := 0; seats <= 20; seats++ {
			got := mustSeat(t, votes, seats, method, lots)
			for i, x := range lots {
				// The lot of x is ahead of that of y, or they are the same.
				for _, y := range lots[i:] {
					ahead := got[x] - got[y]
					switch {
					case votes[x] > votes[y] && ahead < 0, votes[x] < votes[y] && ahead > 0, votes[x] == votes[y] && ahead != 0 && ahead != 1:
						t.Fatalf("SeatsDivisor(%v, %d, %d, %v) returned %v", votes, seats, method, lots, got)
					case votes[x] != votes[y]:
						more++
					case ahead == 0:
						equals++
					default:
						oneMore++
					}
				}
			}
		}
	})
	if more < 1000 || equals < 1000 || oneMore < 1000 {
		t.Errorf("%d parties have other votes, %d as many votes and seats, and %d as many votes and a seat more", more, equals, oneMore)
	}
}

func TestPromise85TwiceAsManyVotes(t *testing.T) {
	checked, most := 0, 0
	eachSeating(func(votes []int, method int, lots []int) {
		if slices.Max(votes) > 49 {
			return
		}
		checked++
		if slices.Max(votes) == 49 {
			most++
		}
		twice := []int{}
		for _, v := range votes {
			twice = append(twice, 2*v)
		}
		for seats := 0; seats <= 20; seats++ {
			got, again := mustSeat(t, votes, seats, method, lots), mustSeat(t, twice, seats, method, lots)
			if !slices.Equal(got, again) {
				t.Fatalf("%d seats of %v by method %d and lots %v are %v, and those of %v are %v", seats, votes, method, lots, got, twice, again)
			}
			if impl.SeatsNext(votes, got, method, lots) != impl.SeatsNext(twice, got, method, lots) {
				t.Fatalf("the next ones of %v and %v with %v by method %d and lots %v differ", votes, twice, got, method, lots)
			}
		}
	})
	if checked < 1000 || most < 100 {
		t.Errorf("only %d votes were doubled, with 49 %d times", checked, most)
	}
}

func TestPromise86AtLeastTheShareRoundedDown(t *testing.T) {
	exactly, below, above := 0, 0, 0
	eachSeating(func(votes []int, method int, lots []int) {
		if method != impl.SeatsWhole {
			return
		}
		all := sumOfCounts(votes)
		for seats := 0; seats <= 20; seats++ {
			got := mustSeat(t, votes, seats, method, lots)
			for party, many := range got {
				if many*all+all <= votes[party]*seats {
					t.Fatalf("SeatsDivisor(%v, %d, %d, %v) returned %v", votes, seats, method, lots, got)
				}
				switch cmp.Compare(many*all, votes[party]*seats) {
				case -1:
					below++
				case 0:
					exactly++
				default:
					above++
				}
			}
		}
	})
	if exactly < 1000 || below < 1000 || above < 1000 {
		t.Errorf("%d parties have their share, %d less and %d more", exactly, below, above)
	}
}

func TestPromise87NoGreaterQuotient(t *testing.T) {
	equals, full := 0, 0
	eachGiven(func(votes []int, given []int, method int, lots []int) {
		next := mustBeNext(t, votes, given, method, lots)
		divisors := divisorsOf(method)
		for party := range votes {
			mine, theirs := votes[next]*divisors[given[party]], votes[party]*divisors[given[next]]
			if mine < theirs || mine == theirs && slices.Index(lots, party) < slices.Index(lots, next) {
				t.Fatalf("SeatsNext(%v, %v, %d, %v) returned %d, though %d comes first", votes, given, method, lots, next, party)
			}
			if mine == theirs && party != next {
				equals++
			}
		}
		if sumOfCounts(given) == 20 {
			full++
		}
	})
	if equals < 1000 || full < 1000 {
		t.Errorf("%d quotients are equal, and all seats were given %d times", equals, full)
	}
}

func TestPromise87EachLotDecides(t *testing.T) {
	for n := 2; n <= 5; n++ {
		for _, some := range masksOf(n) {
			if !slices.Contains(some, true) {
				continue
			}
			for _, method := range bothMethods {
				votes, given := make([]int, n), make([]int, n)
				for party, one := range some {
					// Those of some all have the quotient 12, by different divisors, and the others one that is a bit less.
					given[party] = party % 3
					votes[party] = 12 * divisorsOf(method)[given[party]]
					if !one {
						votes[party]--
					}
				}
				for _, lots := range ordersOf(n) {
					if next := impl.SeatsNext(votes, given, method, lots); next != impl.LotsFirst(lots, some) {
						t.Fatalf("SeatsNext(%v, %v, %d, %v) returned %d", votes, given, method, lots, next)
					}
				}
			}
		}
	}
}

func TestPromise87EachLotDecidesOfEqualVotes(t *testing.T) {
	for n := 2; n <= 5; n++ {
		for _, some := range masksOf(n) {
			for _, v := range []int{1, 2, 50, 99} {
				votes := make([]int, n)
				for party, one := range some {
					if one {
						votes[party] = v
					} else {
						votes[party] = v - 1
					}
				}
				if !slices.Contains(some, true) {
					continue
				}
				for _, lots := range ordersOf(n) {
					for _, method := range bothMethods {
						got := mustSeat(t, votes, 1, method, lots)
						if first := impl.LotsFirst(lots, some); got[first] != 1 || sumOfCounts(got) != 1 {
							t.Fatalf("SeatsDivisor(%v, 1, %d, %v) returned %v", votes, method, lots, got)
						}
					}
				}
			}
		}
	}
}

func TestPromise88TheNextSeatHolds(t *testing.T) {
	checked, full := 0, 0
	check := func(votes []int, given []int, method int, lots []int) {
		if !impl.SeatsCheck(votes, given, method) {
			return
		}
		more := slices.Clone(given)
		more[mustBeNext(t, votes, given, method, lots)]++
		// With more than SeatMax, the seats are invalid.
		room := sumOfCounts(given) < 20
		if got := impl.SeatsCheck(votes, more, method); got != room {
			t.Fatalf("SeatsCheck(%v, %v, %d) is true, but %v for %v", votes, given, method, got, more)
		}
		if room {
			checked++
		} else {
			full++
		}
	}
	eachGiven(check)
	eachCertified(check)
	if checked < 50000 || full < 1000 {
		t.Errorf("a seat was added to %d seats that hold, and to %d without room", checked, full)
	}
}

func TestPromise89ASeatIsMoved(t *testing.T) {
	equals, others := 0, 0
	check := func(votes []int, given []int, method int, lots []int) {
		if !impl.SeatsCheck(votes, given, method) {
			return
		}
		divisors := divisorsOf(method)
		for _, from := range lots {
			for _, to := range lots {
				if from == to || given[from] == 0 {
					continue
				}
				moved := slices.Clone(given)
				moved[from]--
				moved[to]++
				same := votes[from]*divisors[given[to]] == votes[to]*divisors[moved[from]]
				if got := impl.SeatsCheck(votes, moved, method); got != same {
					t.Fatalf("SeatsCheck(%v, %v, %d) is true, and %v for %v", votes, given, method, got, moved)
				} else if got {
					equals++
				} else {
					others++
				}
			}
		}
	}
	eachCertified(check)
	eachGiven(check)
	if equals < 1000 || others < 1000 {
		t.Errorf("%d quotients for a seat that is moved are equal, and %d are not", equals, others)
	}
}

func TestSeatsArgumentsAreNotChanged(t *testing.T) {
	lists := slices.Concat(manyVotes(), invalidVotes())
	for i, votes := range lists {
		n := len(votes)
		for _, given := range [][]int{make([]int, n), slices.Repeat([]int{4}, n), slices.Repeat([]int{-1}, n), slices.Repeat([]int{3}, n+1)} {
			// What is in the spare capacity belongs to the caller, too.
			own := [][]int{append(slices.Clone(votes), 41, 42), append(slices.Clone(given), 43, 44), append(allOf(n), 45, 46)}
			slices.Reverse(own[2][:n])
			kept := [][]int{slices.Clone(own[0]), slices.Clone(own[1]), slices.Clone(own[2])}
			for method := range 4 {
				impl.SeatsDivisor(own[0][:n], i%21, method, own[2][:n])
				impl.SeatsNext(own[0][:n], own[1][:len(given)], method, own[2][:n])
				impl.SeatsCheck(own[0][:n], own[1][:len(given)], method)
			}
			if !sameTable(own, kept) {
				t.Fatalf("%.300v have become %.300v", kept, own)
			}
		}
	}
}

func TestSeatsShareNoMemory(t *testing.T) {
	seats := 0
	eachSeating(func(votes []int, method int, lots []int) {
		seats = (seats + 1) % 21
		ownVotes, ownLots := slices.Clone(votes), slices.Clone(lots)
		first, second := mustSeat(t, ownVotes, seats, method, ownLots), mustSeat(t, ownVotes, seats, method, ownLots)
		kept := slices.Clone(second)
		spoil(first)
		if !slices.Equal(ownVotes, votes) || !slices.Equal(ownLots, lots) {
			t.Fatalf("%v and %v have become %v and %v", votes, lots, ownVotes, ownLots)
		}
		// Nothing reads the arguments any more.
		spoil(ownVotes)
		spoil(ownLots)
		if third := mustSeat(t, votes, seats, method, lots); !slices.Equal(second, kept) || !slices.Equal(third, kept) {
			t.Fatalf("SeatsDivisor(%v, %d, %d, %v) returned %v, then %v and %v", votes, seats, method, lots, kept, second, third)
		}
	})
}

func TestSeatsAreTheSameAtTheSameTime(t *testing.T) {
	votes, lots := []int{60, 30, 0, 60, 10}, []int{4, 3, 2, 1, 0}
	wants := [][]int{{4, 2, 0, 4, 0}, {3, 2, 0, 4, 1}}
	var callers sync.WaitGroup
	for k := range 8 {
		method, want := bothMethods[k%2], wants[k%2]
		callers.Go(func() {
			for range 200 {
				if got, ok := impl.SeatsDivisor(votes, 10, method, lots); !ok || !slices.Equal(got, want) {
					t.Errorf("SeatsDivisor was %v, then %v", want, got)
				}
				if impl.SeatsNext(votes, want, method, lots) != nextOf(votes, want, method, lots) || !impl.SeatsCheck(votes, want, method) {
					t.Error("the next seat has changed, or what SeatsCheck tells of the seats")
				}
			}
		})
	}
	callers.Wait()
}
