package tests

import (
	"math"
	"math/big"
	"slices"
	"sync"
	"testing"

	"loop.example/tallyaudit/impl"
)

// badPercents are never a percentage of a hurdle. Some of them are 0 or little again when they are multiplied by a few votes, since an int has no room.
var badPercents = []int{math.MinInt, math.MinInt + 1, -math.MaxInt/2 - 1, math.MinInt32, -256, -101, -100, -99, -50, -2, -1, 101, 102, 150, 199, 200, 255, 256, 1000, math.MaxInt32, math.MaxInt/4 + 1, math.MaxInt/2 + 1, math.MaxInt - 1, math.MaxInt}

// measured is what ShareGap and ShareSquares tell of given seats.
type measured struct {
	gap, squares int
}

// lacksOf returns what each party lacks to its share, which is less than 0 if it has too much: the sum of what it lacks beside each single party.
func lacksOf(votes []int, given []int) []int {
	lacks := make([]int, len(votes))
	for x := range votes {
		for y := range votes {
			lacks[x] += votes[x]*given[y] - given[x]*votes[y]
		}
	}
	return lacks
}

// dueMeasures is what the document says of ShareGap and ShareSquares for valid arguments, in other words: what some lack, the others have too much, and so the gap is twice as much as is lacking.
func dueMeasures(votes []int, given []int) measured {
	due := measured{}
	for _, lack := range lacksOf(votes, given) {
		if lack > 0 {
			due.gap += 2 * lack
		}
		due.squares += lack * lack
	}
	return due
}

// leastVotes returns the least number of votes that are not less than a percentage of all votes.
func leastVotes(votes []int, percent int) int {
	return (percent*sumOfCounts(votes) + 99) / 100
}

// overHurdle is what the document says of ShareHurdle for valid arguments, in other words: it tells if the greatest votes are enough.
func overHurdle(votes []int, percent int) ([]int, bool) {
	least, over := leastVotes(votes, percent), []int{}
	for _, some := range votes {
		if some < least {
			some = 0
		}
		over = append(over, some)
	}
	return over, slices.Max(votes) >= least
}

// countedAs is what the document says of ShareParties for valid votes, in other words: 1 divided by the sum of the squares of the parts of all votes.
func countedAs(votes []int) *big.Rat {
	all, sum := int64(sumOfCounts(votes)), new(big.Rat)
	for _, some := range votes {
		part := big.NewRat(int64(some), all)
		sum.Add(sum, part.Mul(part, part))
	}
	return sum.Inv(sum)
}

// withVotes returns the number of parties with votes.
func withVotes(votes []int) int {
	return len(votes) - tally(votes, 0)
}

// doubled returns twice the votes of each party.
func doubled(votes []int) []int {
	twice := []int{}
	for _, some := range votes {
		twice = append(twice, some+some)
	}
	return twice
}

// mustMeasure returns the measures of valid arguments, without a look at what is due.
func mustMeasure(t *testing.T, votes []int, given []int) measured {
	t.Helper()
	got := measured{impl.ShareGap(votes, given), impl.ShareSquares(votes, given)}
	if got.gap < 0 || got.squares < 0 {
		t.Fatalf("ShareGap(%v, %v) and ShareSquares returned %d and %d", votes, given, got.gap, got.squares)
	}
	return got
}

// mustPass returns the votes of a hurdle that some parties pass, without a look at what is due.
func mustPass(t *testing.T, votes []int, percent int) []int {
	t.Helper()
	got, ok := impl.ShareHurdle(votes, percent)
	if !ok || len(got) != len(votes) {
		t.Fatalf("ShareHurdle(%v, %d) returned %v, %v", votes, percent, got, ok)
	}
	return got
}

// mustCountParties returns as how many parties valid votes count, without a look at what is due.
func mustCountParties(t *testing.T, votes []int) impl.Frac {
	t.Helper()
	got, ok := impl.ShareParties(votes)
	if !ok || !isFrac(got) {
		t.Fatalf("ShareParties(%v) returned %v, %v", votes, got, ok)
	}
	return got
}

// checkNoMeasures tells if there are measures.
func checkNoMeasures(t *testing.T, votes []int, given []int) {
	t.Helper()
	if gap := impl.ShareGap(votes, given); gap != -1 {
		t.Fatalf("ShareGap(%.100v, %.100v) returned %d", votes, given, gap)
	}
	if squares := impl.ShareSquares(votes, given); squares != -1 {
		t.Fatalf("ShareSquares(%.100v, %.100v) returned %d", votes, given, squares)
	}
}

// checkNoHurdle tells if there are votes behind a hurdle.
func checkNoHurdle(t *testing.T, votes []int, percent int) {
	t.Helper()
	if got, ok := impl.ShareHurdle(votes, percent); ok || len(got) != 0 {
		t.Fatalf("ShareHurdle(%.100v, %d) returned %v, %v", votes, percent, got, ok)
	}
}

// checkNoParties tells if votes count as parties.
func checkNoParties(t *testing.T, votes []int) {
	t.Helper()
	if got, ok := impl.ShareParties(votes); ok || got != (impl.Frac{}) {
		t.Fatalf("ShareParties(%.100v) returned %v, %v", votes, got, ok)
	}
}

// eachMeasured calls a check with many votes and many given seats: any ones, and those that are due by remainders, as they are and with changes.
func eachMeasured(check func(votes []int, given []int)) {
	eachMoved(check)
	eachGiven(func(votes []int, given []int, method int, lots []int) { check(votes, given) })
}

// eachHurdle calls a check with many votes and all percentages.
func eachHurdle(check func(votes []int, percent int)) {
	for _, votes := range manyVotes() {
		for percent := 0; percent <= 100; percent++ {
			check(votes, percent)
		}
	}
}

// measuresExample is what was found by hand for votes and given seats.
type measuresExample struct {
	votes []int
	given []int
	want  measured
}

// checkMeasures checks examples of measures.
func checkMeasures(t *testing.T, examples []measuresExample) {
	t.Helper()
	for _, e := range examples {
		if got := mustMeasure(t, e.votes, e.given); got != e.want {
			t.Errorf("ShareGap(%v, %v) and ShareSquares returned %v, not %v", e.votes, e.given, got, e.want)
		}
		// What is due is right, too.
		if due := dueMeasures(e.votes, e.given); due != e.want {
			t.Errorf("the measures of %v and %v are due to be %v, not %v", e.votes, e.given, due, e.want)
		}
	}
}

func TestMeasuresExamples(t *testing.T) {
	checkMeasures(t, []measuresExample{
		{[]int{60, 30, 10}, []int{4, 1, 0}, measured{200, 15000}},
		{[]int{60, 30, 10}, []int{3, 2, 0}, measured{100, 5000}},
		{[]int{60, 30, 10}, []int{3, 1, 1}, measured{100, 5000}},
		{[]int{60, 30, 10}, []int{4, 2, 1}, measured{60, 1400}},
		{[]int{60, 30, 10}, []int{0, 0, 1}, measured{180, 12600}},
		{[]int{50, 49}, []int{1, 1}, measured{2, 2}},
		{[]int{1, 1, 1}, []int{1, 0, 0}, measured{4, 6}},
		{[]int{1, 1, 1}, []int{0, 0, 1}, measured{4, 6}},
		{[]int{3, 1}, []int{2, 1}, measured{2, 2}},
		{[]int{2, 1, 1, 0}, []int{1, 1, 1, 1}, measured{8, 32}},
		{[]int{99, 99, 99, 99, 99}, []int{4, 4, 4, 4, 3}, measured{792, 196020}},
	})
}

func TestMeasuresExamplesOfShares(t *testing.T) {
	checkMeasures(t, []measuresExample{
		// Each party has exactly its share.
		{[]int{60, 30, 10}, []int{6, 3, 1}, measured{0, 0}},
		{[]int{60, 30, 10}, []int{12, 6, 2}, measured{0, 0}},
		{[]int{2, 1, 1, 0}, []int{2, 1, 1, 0}, measured{0, 0}},
		{[]int{2, 1, 1, 0}, []int{10, 5, 5, 0}, measured{0, 0}},
		{[]int{99, 99, 99, 99, 99}, []int{4, 4, 4, 4, 4}, measured{0, 0}},
		{[]int{95, 5}, []int{19, 1}, measured{0, 0}},
		// There are no seats.
		{[]int{60, 30, 10}, []int{0, 0, 0}, measured{0, 0}},
		{[]int{1}, []int{0}, measured{0, 0}},
		{[]int{99, 99, 99, 99, 99}, []int{0, 0, 0, 0, 0}, measured{0, 0}},
		{[]int{0, 0, 0, 0, 1}, []int{0, 0, 0, 0, 0}, measured{0, 0}},
		// One party alone.
		{[]int{1}, []int{1}, measured{0, 0}},
		{[]int{1}, []int{20}, measured{0, 0}},
		{[]int{99}, []int{20}, measured{0, 0}},
		{[]int{99}, []int{7}, measured{0, 0}},
		{[]int{0, 99, 0}, []int{0, 20, 0}, measured{0, 0}},
	})
}

func TestMeasuresExamplesAtTheEnds(t *testing.T) {
	checkMeasures(t, []measuresExample{
		// One party has all seats.
		{[]int{60, 30, 10}, []int{20, 0, 0}, measured{1600, 1040000}},
		{[]int{60, 30, 10}, []int{0, 0, 20}, measured{3600, 5040000}},
		{[]int{99, 1}, []int{20, 0}, measured{40, 800}},
		{[]int{99, 1}, []int{0, 20}, measured{3960, 7840800}},
		{[]int{99, 99, 99, 99, 99}, []int{20, 0, 0, 0, 0}, measured{15840, 78408000}},
		{[]int{99, 99, 99, 99, 99}, []int{0, 0, 20, 0, 0}, measured{15840, 78408000}},
		// A party without votes has seats.
		{[]int{0, 1}, []int{1, 0}, measured{2, 2}},
		{[]int{0, 1}, []int{20, 0}, measured{40, 800}},
		{[]int{0, 1}, []int{1, 19}, measured{2, 2}},
		{[]int{0, 99, 99, 99, 99}, []int{20, 0, 0, 0, 0}, measured{15840, 78408000}},
		{[]int{99, 99, 99, 99, 0}, []int{0, 0, 0, 0, 20}, measured{15840, 78408000}},
	})
}

func TestShareHurdleExamples(t *testing.T) {
	for _, e := range []struct {
		votes   []int
		percent int
		want    []int
	}{
		{[]int{60, 30, 10}, 11, []int{60, 30, 0}},
		{[]int{60, 30, 10}, 1, []int{60, 30, 10}},
		{[]int{60, 30, 10}, 31, []int{60, 0, 0}},
		{[]int{7, 99, 0, 7, 2}, 5, []int{7, 99, 0, 7, 0}},
		{[]int{7, 99, 0, 7, 2}, 6, []int{7, 99, 0, 7, 0}},
		{[]int{7, 99, 0, 7, 2}, 7, []int{0, 99, 0, 0, 0}},
		{[]int{7, 99, 0, 7, 2}, 86, []int{0, 99, 0, 0, 0}},
		{[]int{1, 2, 3, 4, 5}, 6, []int{1, 2, 3, 4, 5}},
		{[]int{1, 2, 3, 4, 5}, 7, []int{0, 2, 3, 4, 5}},
		{[]int{1, 2, 3, 4, 5}, 13, []int{0, 2, 3, 4, 5}},
		{[]int{1, 2, 3, 4, 5}, 14, []int{0, 0, 3, 4, 5}},
		{[]int{1, 2, 3, 4, 5}, 26, []int{0, 0, 0, 4, 5}},
		{[]int{1, 2, 3, 4, 5}, 27, []int{0, 0, 0, 0, 5}},
		{[]int{1, 2, 3, 4, 5}, 33, []int{0, 0, 0, 0, 5}},
		{[]int{2, 1}, 33, []int{2, 1}},
		{[]int{2, 1}, 34, []int{2, 0}},
		{[]int{2, 1}, 66, []int{2, 0}},
		// Exactly the percentage is enough, and a vote less is not.
		{[]int{60, 30, 10}, 10, []int{60, 30, 10}},
		{[]int{60, 30, 10}, 30, []int{60, 30, 0}},
		{[]int{60, 30, 10}, 60, []int{60, 0, 0}},
		{[]int{5, 95}, 5, []int{5, 95}},
		{[]int{4, 96}, 5, []int{0, 96}},
		{[]int{6, 94}, 5, []int{6, 94}},
		{[]int{4, 96}, 4, []int{4, 96}},
		{[]int{49, 50, 1}, 50, []int{0, 50, 0}},
		{[]int{49, 50, 1}, 49, []int{49, 50, 0}},
		{[]int{50, 50}, 50, []int{50, 50}},
		{[]int{50, 49}, 50, []int{50, 0}},
		{[]int{3, 1, 0}, 25, []int{3, 1, 0}},
		{[]int{3, 1, 0}, 26, []int{3, 0, 0}},
		{[]int{3, 1, 0}, 75, []int{3, 0, 0}},
		{[]int{1, 2, 3, 4, 5}, 20, []int{0, 0, 3, 4, 5}},
		{[]int{1, 2, 3, 4, 5}, 21, []int{0, 0, 0, 4, 5}},
		{[]int{98, 1}, 1, []int{98, 1}},
		{[]int{98, 1}, 2, []int{98, 0}},
		{[]int{99, 99, 99, 99, 99}, 20, []int{99, 99, 99, 99, 99}},
		{[]int{99, 99, 99, 99, 98}, 20, []int{99, 99, 99, 99, 0}},
		{[]int{99, 1}, 1, []int{99, 1}},
		{[]int{99, 1}, 2, []int{99, 0}},
		{[]int{99, 1}, 99, []int{99, 0}},
		// A hurdle of 0 changes nothing.
		{[]int{60, 30, 10}, 0, []int{60, 30, 10}},
		{[]int{0, 0, 0, 0, 1}, 0, []int{0, 0, 0, 0, 1}},
		{[]int{99, 0, 1, 0, 99}, 0, []int{99, 0, 1, 0, 99}},
		{[]int{1}, 0, []int{1}},
		// One of 100 is passed by a party that has all votes.
		{[]int{1}, 100, []int{1}},
		{[]int{99}, 100, []int{99}},
		{[]int{0, 1}, 100, []int{0, 1}},
		{[]int{0, 0, 99, 0, 0}, 100, []int{0, 0, 99, 0, 0}},
	} {
		if got, ok := impl.ShareHurdle(e.votes, e.percent); !ok || !slices.Equal(got, e.want) {
			t.Errorf("ShareHurdle(%v, %d) returned %v, %v, not %v", e.votes, e.percent, got, ok, e.want)
		}
		// What is due is right, too.
		if due, ok := overHurdle(e.votes, e.percent); !ok || !slices.Equal(due, e.want) {
			t.Errorf("the hurdle of %d is due to make %v %v, %v, not %v", e.percent, e.votes, due, ok, e.want)
		}
	}
}

func TestShareHurdleExamplesThatNobodyPasses(t *testing.T) {
	for _, e := range []struct {
		votes []int
		// The greatest percentage that somebody passes.
		most int
	}{
		{[]int{60, 30, 10}, 60},
		{[]int{1, 2, 3, 4, 5}, 33},
		{[]int{7, 99, 0, 7, 2}, 86},
		{[]int{2, 1}, 66},
		{[]int{3, 1, 0}, 75},
		{[]int{1, 1, 1}, 33},
		{[]int{0, 1, 1, 1, 0}, 33},
		{[]int{50, 50}, 50},
		{[]int{50, 49}, 50},
		{[]int{49, 50, 1}, 50},
		{[]int{99, 99, 99, 99, 99}, 20},
		{[]int{99, 99, 99, 99, 98}, 20},
		{[]int{98, 99, 99, 99, 99}, 20},
		{[]int{98, 98, 98, 98, 99}, 20},
		{[]int{1, 1, 1, 1, 1}, 20},
		{[]int{33, 33, 33, 1}, 33},
		{[]int{33, 34, 33}, 34},
		// With 98 of 99 votes, a party has less than 99 of 100.
		{[]int{98, 1}, 98},
		{[]int{99, 1}, 99},
		{[]int{1, 99}, 99},
		{[]int{99, 1, 1}, 98},
	} {
		mustPass(t, e.votes, e.most)
		for percent := e.most + 1; percent <= 100; percent++ {
			checkNoHurdle(t, e.votes, percent)
			// What is due is right, too.
			if due, ok := overHurdle(e.votes, percent); ok || sumOfCounts(due) != 0 {
				t.Errorf("the hurdle of %d is due to make %v %v, %v", percent, e.votes, due, ok)
			}
		}
	}
}

func TestSharePartiesExamples(t *testing.T) {
	for _, e := range []struct {
		votes []int
		want  impl.Frac
	}{
		{[]int{60, 30, 10}, frac(50, 23)},
		{[]int{6, 3, 1}, frac(50, 23)},
		{[]int{10, 30, 60}, frac(50, 23)},
		{[]int{2, 1}, frac(9, 5)},
		{[]int{3, 1}, frac(8, 5)},
		{[]int{4, 2, 2}, frac(8, 3)},
		{[]int{1, 2, 3, 4, 5}, frac(45, 11)},
		{[]int{99, 1}, frac(5000, 4901)},
		{[]int{50, 49}, frac(9801, 4901)},
		{[]int{99, 99, 99, 99, 98}, frac(61009, 12202)},
		{[]int{49, 49, 0, 1}, frac(3267, 1601)},
		{[]int{98, 98, 0, 2}, frac(3267, 1601)},
		// One party alone.
		{[]int{1}, frac(1, 1)},
		{[]int{99}, frac(1, 1)},
		{[]int{0, 1}, frac(1, 1)},
		{[]int{0, 0, 99, 0, 0}, frac(1, 1)},
		// All parties with votes have as many.
		{[]int{10, 10, 0}, frac(2, 1)},
		{[]int{0, 7, 0, 7, 0}, frac(2, 1)},
		{[]int{99, 99}, frac(2, 1)},
		{[]int{5, 5, 5}, frac(3, 1)},
		{[]int{1, 1, 0, 1, 1}, frac(4, 1)},
		{[]int{1, 1, 1, 1, 1}, frac(5, 1)},
		{[]int{99, 99, 99, 99, 99}, frac(5, 1)},
	} {
		if got, ok := impl.ShareParties(e.votes); !ok || got != e.want {
			t.Errorf("ShareParties(%v) returned %v, %v, not %v", e.votes, got, ok, e.want)
		}
		// What is due is right, too.
		if due := countedAs(e.votes); due.Cmp(ratio(e.want)) != 0 {
			t.Errorf("%v are due to count as %v parties, not %v", e.votes, due, e.want)
		}
	}
}

func TestMeasuresOfManyGivenSeats(t *testing.T) {
	without, none, full := 0, 0, 0
	eachMeasured(func(votes []int, given []int) {
		if got, due := mustMeasure(t, votes, given), dueMeasures(votes, given); got != due {
			t.Fatalf("ShareGap(%v, %v) and ShareSquares returned %v, not %v", votes, given, got, due)
		}
		for party, some := range votes {
			if some == 0 && given[party] > 0 {
				without++
				break
			}
		}
		switch sumOfCounts(given) {
		case 0:
			none++
		case 20:
			full++
		}
	})
	if without < 10000 || none < 1000 || full < 10000 {
		t.Errorf("a party without votes has seats %d times, nobody has one %d times, and SeatMax are given %d times", without, none, full)
	}
}

func TestMeasuresOfAllVotesOfTwoParties(t *testing.T) {
	for x := 0; x <= 99; x++ {
		for y := 0; y <= 99; y++ {
			votes := []int{x, y}
			for k := range 6 {
				seats := (x + 3*y + 4*k) % 21
				given := []int{(5*x + y + 3*k) % (seats + 1), 0}
				given[1] = seats - given[0]
				if !areVotes(votes) {
					checkNoMeasures(t, votes, given)
					continue
				}
				// What one party lacks, the other one has too much.
				lack := x*given[1] - given[0]*y
				want := measured{2 * max(lack, -lack), 2 * lack * lack}
				if got := mustMeasure(t, votes, given); got != want {
					t.Fatalf("ShareGap(%v, %v) and ShareSquares returned %v, not %v", votes, given, got, want)
				}
			}
		}
	}
}

func TestShareHurdleOfManyVotes(t *testing.T) {
	same, fewer, none := 0, 0, 0
	eachHurdle(func(votes []int, percent int) {
		due, ok := overHurdle(votes, percent)
		if !ok {
			checkNoHurdle(t, votes, percent)
			none++
			return
		}
		if got := mustPass(t, votes, percent); !slices.Equal(got, due) {
			t.Fatalf("ShareHurdle(%v, %d) returned %v, not %v", votes, percent, got, due)
		}
		if slices.Equal(votes, due) {
			same++
		} else {
			fewer++
		}
	})
	if same < 10000 || fewer < 10000 || none < 10000 {
		t.Errorf("hurdles leave all votes %d times, and some %d times, and nobody passes them %d times", same, fewer, none)
	}
}

func TestShareHurdleOfAllVotesOfTwoParties(t *testing.T) {
	for x := 0; x <= 99; x++ {
		for y := 0; y <= 99; y++ {
			votes := []int{x, y}
			if !areVotes(votes) {
				checkNoHurdle(t, votes, 0)
				checkNoHurdle(t, votes, 100)
				continue
			}
			// The greatest percentage that each one passes, and those next to it, decide.
			for _, some := range votes {
				most := 100 * some / (x + y)
				for percent := max(0, most-1); percent <= min(100, most+1); percent++ {
					due, ok := overHurdle(votes, percent)
					if got, fine := impl.ShareHurdle(votes, percent); fine != ok || ok && !slices.Equal(got, due) {
						t.Fatalf("ShareHurdle(%v, %d) returned %v, %v, not %v, %v", votes, percent, got, fine, due, ok)
					}
				}
			}
		}
	}
}

func TestSharePartiesOfManyVotes(t *testing.T) {
	wholes, others := 0, 0
	check := func(votes []int) {
		got, ok := impl.ShareParties(votes)
		checkFrac(t, "ShareParties", got, ok, countedAs(votes))
		if got.Den == 1 {
			wholes++
		} else {
			others++
		}
	}
	for _, votes := range manyVotes() {
		check(votes)
	}
	for x := 0; x <= 99; x++ {
		for y := 0; y <= 99; y++ {
			if votes := []int{x, y}; areVotes(votes) {
				check(votes)
			} else {
				checkNoParties(t, votes)
			}
		}
	}
	if wholes < 200 || others < 5000 {
		t.Errorf("%d votes count as a whole number of parties, and %d do not", wholes, others)
	}
}

func TestMeasuresOfInvalidVotes(t *testing.T) {
	for _, votes := range invalidVotes() {
		n := len(votes)
		given := make([]int, n)
		checkNoMeasures(t, votes, given)
		for party := range min(n, 6) {
			given[party]++
			checkNoMeasures(t, votes, given)
		}
		for _, given := range [][]int{nil, {0}, {1}, {20}, {1, 1}, make([]int, 5)} {
			checkNoMeasures(t, votes, given)
		}
		for percent := 0; percent <= 100; percent += 5 {
			checkNoHurdle(t, votes, percent)
		}
		checkNoHurdle(t, votes, 1)
		checkNoParties(t, votes)
	}
}

func TestMeasuresOfInvalidGivenSeats(t *testing.T) {
	for n := 1; n <= 5; n++ {
		lists := slices.Concat(invalidGiven(n), [][]int{nil, slices.Repeat([]int{21/n + 1}, n), slices.Repeat([]int{-2}, n)})
		for _, given := range slices.DeleteFunc(lists, func(given []int) bool { return areGiven(given, n) }) {
			for _, votes := range [][]int{slices.Repeat([]int{1}, n), slices.Repeat([]int{99}, n), []int{60, 30, 0, 10, 5}[:n]} {
				checkNoMeasures(t, votes, given)
			}
		}
	}
	// These would be shares, but not in range, or not together.
	checkNoMeasures(t, []int{99}, []int{21})
	checkNoMeasures(t, []int{1, 1}, []int{11, 11})
	checkNoMeasures(t, []int{60, 30, 10}, []int{60, 30, 10})
	checkNoMeasures(t, []int{60, 30, 10}, []int{-6, -3, -1})
	checkNoMeasures(t, []int{60, 30, 0}, []int{2, 1})
	checkNoMeasures(t, []int{60, 30}, []int{2, 1, 0})
}

func TestShareHurdleOfInvalidPercentages(t *testing.T) {
	for _, percent := range badPercents {
		for _, votes := range manyVotes() {
			checkNoHurdle(t, votes, percent)
		}
		for _, votes := range invalidVotes() {
			checkNoHurdle(t, votes, percent)
		}
	}
}

func TestPromise97TheGapIsEvenAnd0ForShares(t *testing.T) {
	shares, others, none := 0, 0, 0
	eachMeasured(func(votes []int, given []int) {
		gap, all, seats := mustMeasure(t, votes, given).gap, sumOfCounts(votes), sumOfCounts(given)
		exact := true
		for party, some := range votes {
			exact = exact && given[party]*all == some*seats
		}
		if gap%2 != 0 || exact != (gap == 0) {
			t.Fatalf("ShareGap(%v, %v) returned %d", votes, given, gap)
		}
		switch {
		case !exact:
			others++
		case seats == 0:
			none++
		case len(votes) > 1:
			shares++
		}
	})
	if shares < 1000 || others < 10000 || none < 1000 {
		t.Errorf("parties have exactly their shares %d times, others %d times, and no seats %d times", shares, others, none)
	}
}

func TestPromise97EachShare(t *testing.T) {
	for n := 1; n <= 5; n++ {
		for _, given := range manyGiven(n) {
			most := slices.Max(given)
			if most == 0 {
				continue
			}
			for _, factor := range []int{1, 2, 3, 99 / most} {
				votes := []int{}
				for _, many := range given {
					votes = append(votes, factor*many)
				}
				if !areVotes(votes) {
					continue
				}
				// Votes that are a multiple of the seats have these as shares.
				if got := mustMeasure(t, votes, given); got != (measured{}) {
					t.Fatalf("ShareGap(%v, %v) and ShareSquares returned %v", votes, given, got)
				}
				checkNoShares(t, votes, given)
			}
		}
	}
}

// checkNoShares tells if seats are still shares when one of them is moved from any party to any other one.
func checkNoShares(t *testing.T, votes []int, given []int) {
	t.Helper()
	for from, many := range given {
		for to := range given {
			if many == 0 || from == to {
				continue
			}
			moved := slices.Clone(given)
			moved[from]--
			moved[to]++
			// Both parties are off by all votes.
			all := sumOfCounts(votes)
			if got := mustMeasure(t, votes, moved); got != (measured{2 * all, 2 * all * all}) {
				t.Fatalf("ShareGap(%v, %v) and ShareSquares returned %v", votes, moved, got)
			}
		}
	}
}

func TestPromise98SquaresAreBetweenBothEnds(t *testing.T) {
	least, between := 0, 0
	eachMeasured(func(votes []int, given []int) {
		got := mustMeasure(t, votes, given)
		square := got.gap * got.gap
		if got.squares > square || len(votes)*got.squares < square {
			t.Fatalf("ShareSquares(%v, %v) returned %d, and ShareGap %d", votes, given, got.squares, got.gap)
		}
		switch {
		case got.gap == 0:
		case len(votes)*got.squares == square:
			least++
		default:
			between++
		}
		// Equal differences reach the lower end; of the upper one, no more than half is reached, since a party alone lacks nothing.
		if 2*got.squares > square {
			t.Fatalf("ShareSquares(%v, %v) returned %d, and ShareGap %d, as if only one party were off", votes, given, got.squares, got.gap)
		}
	})
	if least < 1000 || between < 10000 {
		t.Errorf("squares are at the lower end %d times, and between both ends %d times", least, between)
	}
}

// checkBest checks that measures of given seats are not less than those of SeatsRemainder of as many seats, by some lots. It returns the measures of both.
func checkBest(t *testing.T, votes []int, given []int, lots []int) (measured, measured) {
	t.Helper()
	best := mustShareOut(t, votes, sumOfCounts(given), lots)
	got, least := mustMeasure(t, votes, given), mustMeasure(t, votes, best)
	if least.gap > got.gap || least.squares > got.squares {
		t.Fatalf("the measures of %v are %v for seats %v, and %v for %v, those of SeatsRemainder", votes, got, given, least, best)
	}
	return got, least
}

// eachBest calls a check with many measures, and those of SeatsRemainder of as many seats by many lots.
func eachBest(t *testing.T, check func(got measured, least measured)) {
	orders := map[int][][]int{}
	for n := 1; n <= 5; n++ {
		orders[n] = ordersOf(n)
	}
	turn := 0
	eachMeasured(func(votes []int, given []int) {
		all := orders[len(votes)]
		turn++
		check(checkBest(t, votes, given, all[turn%len(all)]))
	})
}

func TestPromise99NoGapIsLessThanThatOfRemainders(t *testing.T) {
	same, greater := 0, 0
	eachBest(t, func(got measured, least measured) {
		if got.gap > least.gap {
			greater++
		} else {
			same++
		}
	})
	if same < 10000 || greater < 10000 {
		t.Errorf("the gap of remainders is as great %d times, and less %d times", same, greater)
	}
}

func TestPromise100NoSquaresAreLessThanThoseOfRemainders(t *testing.T) {
	same, greater := 0, 0
	eachBest(t, func(got measured, least measured) {
		if got.squares > least.squares {
			greater++
		} else {
			same++
		}
	})
	if same < 10000 || greater < 10000 {
		t.Errorf("the squares of remainders are as great %d times, and less %d times", same, greater)
	}
}

// waysToGive returns all ways to give some seats to n parties.
func waysToGive(seats int, n int) [][]int {
	if n == 1 {
		return [][]int{{seats}}
	}
	ways := [][]int{}
	for first := 0; first <= seats; first++ {
		for _, others := range waysToGive(seats-first, n-1) {
			ways = append(ways, with(others, 0, first))
		}
	}
	return ways
}

func TestPromises99And100OfAllWaysToGiveSeats(t *testing.T) {
	for n, most := range map[int]int{1: 20, 2: 20, 3: 20, 4: 8, 5: 5} {
		lists := slices.DeleteFunc(manyVotes(), func(votes []int) bool { return len(votes) != n })
		for seats := 0; seats <= most; seats++ {
			ways := waysToGive(seats, n)
			for i := seats; i < len(lists); i += 41 {
				least := measured{math.MaxInt, math.MaxInt}
				for _, given := range ways {
					got := mustMeasure(t, lists[i], given)
					least = measured{min(least.gap, got.gap), min(least.squares, got.squares)}
				}
				// There is no better way, and so the least measures of all ways are those of remainders.
				if best := mustMeasure(t, lists[i], mustShareOut(t, lists[i], seats, allOf(n))); best != least {
					t.Fatalf("the least measures of %d seats of %v are %v, not %v", seats, lists[i], least, best)
				}
			}
		}
	}
}

func TestPromise101EnoughVotesAreKept(t *testing.T) {
	exact, kept, lost := 0, 0, 0
	eachHurdle(func(votes []int, percent int) {
		all := sumOfCounts(votes)
		enough := func(some int) bool { return 100*some >= percent*all }
		if !slices.ContainsFunc(votes, enough) {
			checkNoHurdle(t, votes, percent)
			return
		}
		got := mustPass(t, votes, percent)
		for party, some := range votes {
			switch {
			case enough(some) && got[party] != some, !enough(some) && got[party] != 0:
				t.Fatalf("ShareHurdle(%v, %d) returned %v", votes, percent, got)
			case some == 0:
			case 100*some == percent*all:
				exact++
			case enough(some):
				kept++
			default:
				lost++
			}
		}
	})
	if exact < 500 || kept < 10000 || lost < 10000 {
		t.Errorf("parties keep exactly enough votes %d times, and more %d times, and lose theirs %d times", exact, kept, lost)
	}
}

func TestPromise101OneVoteDecides(t *testing.T) {
	fewer, none := 0, 0
	// All votes are 100: each vote is one of a hundred.
	for percent := 1; percent <= 99; percent++ {
		for _, rest := range [][]int{{100 - percent}, {99 - percent, 1}, {50, 50 - percent}, {1, 1, 98 - percent}, {(100 - percent) / 2, (101 - percent) / 2, 0}} {
			votes := append([]int{percent}, rest...)
			if !areVotes(votes) {
				continue
			}
			if got := mustPass(t, votes, percent); got[0] != percent {
				t.Fatalf("ShareHurdle(%v, %d) returned %v", votes, percent, got)
			}
			// With a vote less, which another party has, it is not enough any more.
			votes[0]--
			votes[1]++
			switch {
			case !areVotes(votes):
			case slices.Max(votes[1:]) < percent:
				checkNoHurdle(t, votes, percent)
				none++
			default:
				if got := mustPass(t, votes, percent); got[0] != 0 || slices.Max(got) != slices.Max(votes[1:]) {
					t.Fatalf("ShareHurdle(%v, %d) returned %v", votes, percent, got)
				}
				fewer++
			}
		}
	}
	if fewer < 100 || none < 100 {
		t.Errorf("a vote less is not enough any more %d times if others have enough, and %d times if nobody has", fewer, none)
	}
}

func TestPromise102LesserHurdlesLeaveAsManyVotesOrMore(t *testing.T) {
	more, same, none := 0, 0, 0
	for _, votes := range manyVotes() {
		before := mustPass(t, votes, 0)
		if !slices.Equal(before, votes) {
			t.Fatalf("ShareHurdle(%v, 0) returned %v", votes, before)
		}
		for percent := 1; percent <= 100; percent++ {
			got, ok := impl.ShareHurdle(votes, percent)
			if !ok {
				// Once nobody passes, nobody passes a greater one.
				none++
				for ; percent <= 100; percent++ {
					checkNoHurdle(t, votes, percent)
				}
				break
			}
			for party, some := range got {
				if before[party] < some {
					t.Fatalf("ShareHurdle(%v, %d) returned %v, but one less %v", votes, percent, got, before)
				}
			}
			if slices.Equal(got, before) {
				same++
			} else {
				more++
			}
			before = got
		}
	}
	if more < 1000 || same < 10000 || none < 1000 {
		t.Errorf("a hurdle of one less leaves more votes %d times, and as many %d times, and nobody passes at last %d times", more, same, none)
	}
}

func TestPromise103VotesCountAsAPartyOrMore(t *testing.T) {
	equal, other := 0, 0
	for _, votes := range manyVotes() {
		got, some := mustCountParties(t, votes), withVotes(votes)
		if got.Num < got.Den || got.Num > some*got.Den {
			t.Fatalf("ShareParties(%v) returned %v", votes, got)
		}
		// The number of parties with votes is reached exactly if all of these have as many.
		same := tally(votes, 0)+tally(votes, slices.Max(votes)) == len(votes)
		if same != (got == frac(some, 1)) {
			t.Fatalf("ShareParties(%v) returned %v", votes, got)
		}
		// 1 is reached exactly by one party alone.
		if (some == 1) != (got == frac(1, 1)) {
			t.Fatalf("ShareParties(%v) returned %v", votes, got)
		}
		if same {
			equal++
		} else {
			other++
		}
	}
	if equal < 100 || other < 1000 {
		t.Errorf("all parties with votes have as many %d times, and others %d times", equal, other)
	}
}

func TestPromise103AllEqualParties(t *testing.T) {
	for n := 1; n <= 5; n++ {
		for _, some := range masksOf(n) {
			many := 0
			for _, one := range some {
				if one {
					many++
				}
			}
			for number := 1; number <= 99; number++ {
				votes := make([]int, n)
				for party, one := range some {
					if one {
						votes[party] = number
					}
				}
				if many == 0 {
					checkNoParties(t, votes)
				} else if got := mustCountParties(t, votes); got != frac(many, 1) {
					t.Fatalf("ShareParties(%v) returned %v, not %d", votes, got, many)
				}
			}
		}
	}
}

func TestPromise104TwiceAsManyVotesCountTheSame(t *testing.T) {
	most := 0
	for _, votes := range slices.Concat(manyVotes(), listsOf(48, 49, 5), listsOf(0, 49, 2), [][]int{{49, 1, 0, 24, 25}, {0, 0, 0, 0, 49}}) {
		if !areVotes(votes) || slices.Max(votes) > 49 {
			continue
		}
		twice := doubled(votes)
		if got, want := mustCountParties(t, twice), mustCountParties(t, votes); got != want {
			t.Fatalf("ShareParties(%v) returned %v, and that of %v %v", twice, got, votes, want)
		}
		if slices.Contains(votes, 49) {
			most++
		}
	}
	if most < 100 {
		t.Errorf("only %d times, a party has 49 votes", most)
	}
	// With twice 50 votes, there would be more than VoteMax.
	mustCountParties(t, []int{50, 1})
	checkNoParties(t, doubled([]int{50, 1}))
}

func TestPromise104AFurtherPartyWithoutVotesCountsNothing(t *testing.T) {
	fewer, most := 0, 0
	for _, votes := range manyVotes() {
		want := mustCountParties(t, votes)
		for place := 0; place <= len(votes); place++ {
			further := with(votes, place, 0)
			if len(votes) == 5 {
				// There are too many parties then.
				checkNoParties(t, further)
				most++
				continue
			}
			if got := mustCountParties(t, further); got != want {
				t.Fatalf("ShareParties(%v) returned %v, and that of %v %v", further, got, votes, want)
			}
			fewer++
		}
	}
	if fewer < 1000 || most < 1000 {
		t.Errorf("there is room for a further party %d times, and none %d times", fewer, most)
	}
	// Further parties may come one after the other.
	votes := []int{60}
	for range 4 {
		votes = append(votes, 0)
		if got := mustCountParties(t, votes); got != frac(1, 1) {
			t.Errorf("ShareParties(%v) returned %v", votes, got)
		}
	}
}

func TestMeasuresArgumentsAreNotChanged(t *testing.T) {
	for i, votes := range slices.Concat(manyVotes(), invalidVotes()) {
		n := len(votes)
		for _, given := range [][]int{make([]int, n), slices.Repeat([]int{4}, n), slices.Repeat([]int{-1}, n), slices.Repeat([]int{3}, n+1)} {
			// What is in the spare capacity belongs to the caller, too.
			own := [][]int{append(slices.Clone(votes), 41, 42), append(slices.Clone(given), 43, 44)}
			kept := [][]int{slices.Clone(own[0]), slices.Clone(own[1])}
			impl.ShareGap(own[0][:n], own[1][:len(given)])
			impl.ShareSquares(own[0][:n], own[1][:len(given)])
			impl.ShareHurdle(own[0][:n], i%103-1)
			impl.ShareParties(own[0][:n])
			if !sameTable(own, kept) {
				t.Fatalf("%.300v have become %.300v", kept, own)
			}
		}
	}
}

func TestMeasuresShareNoMemory(t *testing.T) {
	eachHurdle(func(votes []int, percent int) {
		if _, ok := overHurdle(votes, percent); !ok {
			return
		}
		own := slices.Clone(votes)
		first, second := mustPass(t, own, percent), mustPass(t, own, percent)
		kept := slices.Clone(second)
		spoil(first)
		if !slices.Equal(own, votes) {
			t.Fatalf("%v has become %v", votes, own)
		}
		// Nothing reads the argument any more.
		spoil(own)
		if third := mustPass(t, votes, percent); !slices.Equal(second, kept) || !slices.Equal(third, kept) {
			t.Fatalf("ShareHurdle(%v, %d) returned %v, then %v and %v", votes, percent, kept, second, third)
		}
	})
}

func TestMeasuresAreTheSameAtTheSameTime(t *testing.T) {
	votes, given := []int{60, 30, 10}, []int{4, 1, 0}
	// With each percentage, the parties that have as many votes of 100, or more, are left.
	wants := map[int][]int{10: {60, 30, 10}, 11: {60, 30, 0}}
	var callers sync.WaitGroup
	for k := range 8 {
		percent := 10 + k%2
		callers.Go(func() {
			for range 200 {
				if got, ok := impl.ShareHurdle(votes, percent); !ok || !slices.Equal(got, wants[percent]) {
					t.Errorf("ShareHurdle was %v, then %v", wants[percent], got)
				}
				got := measured{impl.ShareGap(votes, given), impl.ShareSquares(votes, given)}
				if f, ok := impl.ShareParties(votes); !ok || f != frac(50, 23) || got != (measured{200, 15000}) {
					t.Errorf("ShareParties is %v, and the measures are %v", f, got)
				}
			}
		})
	}
	callers.Wait()
}
