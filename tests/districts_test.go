package tests

import (
	"math"
	"slices"
	"sync"
	"testing"

	"loop.example/tallyaudit/impl"
)

// leveled is what all functions tell of districts: the votes of all together, the seats of each one, the gap, and the further seats.
type leveled struct {
	all   []int
	each  [][]int
	gap   int
	level []int
}

// badFurther are never a number of further seats. With some other seats added to them, some are in range again, since an int has no room.
var badFurther = []int{math.MinInt, math.MinInt + 1, math.MinInt + 20, math.MinInt32, -256, -21, -20, -19, -2, -1, 21, 22, 40, 99, 256, math.MaxInt32, math.MaxInt - 20, math.MaxInt - 1, math.MaxInt}

// inAll returns the sum of each column of a table whose rows have as many numbers each.
func inAll(rows [][]int) []int {
	sums := []int{}
	for column := range rows[0] {
		numbers := []int{}
		for _, row := range rows {
			numbers = append(numbers, row[column])
		}
		sums = append(sums, sumOfCounts(numbers))
	}
	return sums
}

// areDistricts is the document's definition of valid districts, in other words.
func areDistricts(votes [][]int) bool {
	switch len(votes) {
	case 1, 2, 3, 4:
	default:
		return false
	}
	others := slices.ContainsFunc(votes, func(district []int) bool { return !areVotes(district) || len(district) != len(votes[0]) })
	return !others && slices.Max(inAll(votes)) < 100
}

// dueGap is what the document says of DistrictGap for seats of districts, in other words: all of these but those that parties also have by all votes together.
func dueGap(votes [][]int, each [][]int, method int, lots []int) int {
	given := inAll(each)
	seats := sumOfCounts(given)
	due := seatsOf(inOrder(inAll(votes), method, lots)[:seats], len(given))
	for party, many := range given {
		seats -= min(many, due[party])
	}
	return seats
}

// dueLevel is what the document says of DistrictLevel for seats that parties have, in other words: the first ones of all claims to all seats behind these.
func dueLevel(all []int, given []int, further int, method int, lots []int) []int {
	claims := []claim{}
	for _, party := range lots {
		for _, divisor := range divisorsOf(method)[given[party]:] {
			claims = append(claims, claim{party, all[party], divisor})
		}
	}
	// Equal ones stay in the order of the lots.
	slices.SortStableFunc(claims, func(a claim, b claim) int { return byQuotient(b, a) })
	level := make([]int, len(all))
	for _, c := range claims[:further] {
		level[c.party]++
	}
	return level
}

// dueDistricts is what the document says of all functions for valid arguments, in other words.
func dueDistricts(votes [][]int, seats int, further int, method int, lots []int) leveled {
	due := leveled{all: inAll(votes)}
	for _, district := range votes {
		due.each = append(due.each, seatsOf(inOrder(district, method, lots)[:seats], len(district)))
	}
	due.gap = dueGap(votes, due.each, method, lots)
	due.level = dueLevel(due.all, inAll(due.each), further, method, lots)
	return due
}

// sameLeveled reports whether all is the same.
func sameLeveled(a leveled, b leveled) bool {
	return slices.Equal(a.all, b.all) && sameTable(a.each, b.each) && a.gap == b.gap && slices.Equal(a.level, b.level)
}

// mustAddUp returns the votes of all valid districts together, without a look at what is due.
func mustAddUp(t *testing.T, votes [][]int) []int {
	t.Helper()
	got, ok := impl.DistrictVotes(votes)
	if !ok || len(got) != len(votes[0]) || !impl.DistrictsValid(votes) {
		t.Fatalf("DistrictVotes(%v) returned %v, %v", votes, got, ok)
	}
	return got
}

// mustSeatEach returns the seats of each district, without a look at what is due.
func mustSeatEach(t *testing.T, votes [][]int, seats int, method int, lots []int) [][]int {
	t.Helper()
	got, ok := impl.DistrictSeats(votes, seats, method, lots)
	if !ok || len(got) != len(votes) || slices.ContainsFunc(got, func(row []int) bool { return !areGiven(row, len(votes[0])) }) {
		t.Fatalf("DistrictSeats(%v, %d, %d, %v) returned %v, %v", votes, seats, method, lots, got, ok)
	}
	return got
}

// mustHaveGap returns the gap of valid arguments, without a look at what is due.
func mustHaveGap(t *testing.T, votes [][]int, seats int, method int, lots []int) int {
	t.Helper()
	gap := impl.DistrictGap(votes, seats, method, lots)
	if gap < 0 {
		t.Fatalf("DistrictGap(%v, %d, %d, %v) returned %d", votes, seats, method, lots, gap)
	}
	return gap
}

// mustLevel returns the further seats of valid arguments, without a look at what is due.
func mustLevel(t *testing.T, votes [][]int, seats int, further int, method int, lots []int) []int {
	t.Helper()
	got, ok := impl.DistrictLevel(votes, seats, further, method, lots)
	if !ok || !areGiven(got, len(votes[0])) {
		t.Fatalf("DistrictLevel(%v, %d, %d, %d, %v) returned %v, %v", votes, seats, further, method, lots, got, ok)
	}
	return got
}

// mustTellAll returns what all functions tell of valid arguments, without a look at what is due.
func mustTellAll(t *testing.T, votes [][]int, seats int, further int, method int, lots []int) leveled {
	t.Helper()
	return leveled{
		all:   mustAddUp(t, votes),
		each:  mustSeatEach(t, votes, seats, method, lots),
		gap:   mustHaveGap(t, votes, seats, method, lots),
		level: mustLevel(t, votes, seats, further, method, lots),
	}
}

// checkNoLevel tells if there are further seats.
func checkNoLevel(t *testing.T, votes [][]int, seats int, further int, method int, lots []int) {
	t.Helper()
	if got, ok := impl.DistrictLevel(votes, seats, further, method, lots); ok || len(got) != 0 {
		t.Fatalf("DistrictLevel(%.200v, %d, %d, %d, %.100v) returned %v, %v", votes, seats, further, method, lots, got, ok)
	}
}

// checkNoDistrictSeats tells if there are seats of districts, a gap, or further seats.
func checkNoDistrictSeats(t *testing.T, votes [][]int, seats int, method int, lots []int) {
	t.Helper()
	if got, ok := impl.DistrictSeats(votes, seats, method, lots); ok || len(got) != 0 {
		t.Fatalf("DistrictSeats(%.200v, %d, %d, %.100v) returned %v, %v", votes, seats, method, lots, got, ok)
	}
	if gap := impl.DistrictGap(votes, seats, method, lots); gap != -1 {
		t.Fatalf("DistrictGap(%.200v, %d, %d, %.100v) returned %d", votes, seats, method, lots, gap)
	}
	for _, further := range []int{0, 1, 20} {
		checkNoLevel(t, votes, seats, further, method, lots)
	}
}

// checkNoDistricts tells if districts are valid, for any function.
func checkNoDistricts(t *testing.T, votes [][]int, lots []int) {
	t.Helper()
	if impl.DistrictsValid(votes) {
		t.Fatalf("DistrictsValid(%.200v) is true", votes)
	}
	if got, ok := impl.DistrictVotes(votes); ok || len(got) != 0 {
		t.Fatalf("DistrictVotes(%.200v) returned %v, %v", votes, got, ok)
	}
	for _, method := range bothMethods {
		for _, seats := range []int{0, 1, 5} {
			checkNoDistrictSeats(t, votes, seats, method, lots)
		}
	}
}

// rowsOf returns all lists of the given number of some rows.
func rowsOf(some [][]int, many int) [][][]int {
	lists := [][][]int{{}}
	for range many {
		longer := [][][]int{}
		for _, list := range lists {
			for _, row := range some {
				longer = append(longer, append(slices.Clone(list), row))
			}
		}
		lists = longer
	}
	return lists
}

// sameRows returns rows of n parties that all have the same number.
func sameRows(many int, n int, number int) [][]int {
	rows := [][]int{}
	for range many {
		rows = append(rows, slices.Repeat([]int{number}, n))
	}
	return rows
}

// divided returns votes in some districts: each vote is in any one of them, or all of the votes of some parties are in the same one.
func divided(votes []int, many int, next *numbers) [][]int {
	rows := [][]int{}
	for range many {
		rows = append(rows, make([]int, len(votes)))
	}
	for party, some := range votes {
		if next.below(4) == 0 {
			rows[next.below(many)][party] += some
			continue
		}
		for range some {
			rows[min(next.below(many), next.below(many))][party]++
		}
	}
	return rows
}

// smallDistricts returns all districts with a few votes of one to three parties.
func smallDistricts() [][][]int {
	lists := [][][]int{}
	for many := 1; many <= 4; many++ {
		// Each list is that of parties with votes up to a limit, which is lower where there would be too many lists.
		lists = append(lists, rowsOf(listsOf(0, 2, 1), many)...)
		lists = append(lists, rowsOf(listsOf(0, max(1, 4-many), 2), many)...)
		if many < 4 {
			lists = append(lists, rowsOf(listsOf(0, 1, 3), many)...)
		}
	}
	return lists
}

// manyDistricts returns valid districts: small ones, and any votes that are divided, many of them 99 together, or the same in each district.
func manyDistricts() [][][]int {
	lists := smallDistricts()
	next := numbers(24)
	for i, votes := range manyVotes() {
		if i%3 == 0 {
			lists = append(lists, divided(votes, 1+next.below(4), &next))
		}
		if i%11 == 0 {
			lists = append(lists, slices.Repeat([][]int{votes}, 1+next.below(4)))
		}
	}
	for n := 1; n <= 5; n++ {
		for many := 2; many <= 4; many++ {
			for range 40 {
				// Whatever is divided, the votes of all together are 99 for some, or for all.
				votes := slices.Repeat([]int{99}, n)
				votes[next.below(n)] = 99 * next.below(2)
				votes[next.below(n)] = 99 - next.below(3)
				lists = append(lists, divided(votes, many, &next))
			}
		}
	}
	return slices.DeleteFunc(lists, func(votes [][]int) bool { return !areDistricts(votes) })
}

// eachDistricts calls a check with many districts, all numbers of seats, both methods and many lots.
func eachDistricts(check func(votes [][]int, seats int, method int, lots []int)) {
	orders := map[int][][]int{}
	for n := 1; n <= 5; n++ {
		orders[n] = ordersOf(n)
	}
	for i, votes := range manyDistricts() {
		all := orders[len(votes[0])]
		for seats := 0; seats*len(votes) <= 20; seats++ {
			for _, method := range bothMethods {
				check(votes, seats, method, all[(7*i+3*seats)%len(all)])
			}
		}
	}
}

// eachLevel calls a check with many districts, all numbers of seats, some numbers of further seats, both methods and many lots.
func eachLevel(check func(votes [][]int, seats int, further int, method int, lots []int)) {
	turn := 0
	eachDistricts(func(votes [][]int, seats int, method int, lots []int) {
		turn++
		room := 20 - seats*len(votes)
		check(votes, seats, room, method, lots)
		check(votes, seats, turn%(room+1), method, lots)
	})
}

// districtsExample is what was found by hand for districts.
type districtsExample struct {
	votes   [][]int
	seats   int
	further int
	method  int
	lots    []int
	want    leveled
}

// checkDistricts checks examples of districts.
func checkDistricts(t *testing.T, examples []districtsExample) {
	t.Helper()
	for _, e := range examples {
		if got := mustTellAll(t, e.votes, e.seats, e.further, e.method, e.lots); !sameLeveled(got, e.want) {
			t.Errorf("%v with %d seats and %d further ones by method %d and lots %v are %v, not %v", e.votes, e.seats, e.further, e.method, e.lots, got, e.want)
		}
		// What is due is right, too.
		if due := dueDistricts(e.votes, e.seats, e.further, e.method, e.lots); !sameLeveled(due, e.want) {
			t.Errorf("%v with %d seats and %d further ones by method %d and lots %v are due to be %v, not %v", e.votes, e.seats, e.further, e.method, e.lots, due, e.want)
		}
	}
}

func TestDistrictMax(t *testing.T) {
	if impl.DistrictMax != 4 {
		t.Errorf("DistrictMax is %d", impl.DistrictMax)
	}
}

func TestDistrictsExamples(t *testing.T) {
	two, four := [][]int{{6, 4}, {6, 4}}, [][]int{{5, 4}, {5, 4}, {5, 4}, {5, 4}}
	three := [][]int{{60, 30, 10}, {30, 50, 0}}
	checkDistricts(t, []districtsExample{
		// The party that is second everywhere gets nothing in the districts.
		{two, 1, 2, 1, []int{0, 1}, leveled{[]int{12, 8}, [][]int{{1, 0}, {1, 0}}, 1, []int{1, 1}}},
		{two, 1, 2, 1, []int{1, 0}, leveled{[]int{12, 8}, [][]int{{1, 0}, {1, 0}}, 1, []int{0, 2}}},
		{two, 1, 2, 2, []int{0, 1}, leveled{[]int{12, 8}, [][]int{{1, 0}, {1, 0}}, 1, []int{0, 2}}},
		{two, 1, 1, 1, []int{0, 1}, leveled{[]int{12, 8}, [][]int{{1, 0}, {1, 0}}, 1, []int{0, 1}}},
		{four, 1, 4, 1, []int{0, 1}, leveled{[]int{20, 16}, [][]int{{1, 0}, {1, 0}, {1, 0}, {1, 0}}, 2, []int{1, 3}}},
		{four, 1, 4, 1, []int{1, 0}, leveled{[]int{20, 16}, [][]int{{1, 0}, {1, 0}, {1, 0}, {1, 0}}, 2, []int{0, 4}}},
		{four, 1, 4, 2, []int{0, 1}, leveled{[]int{20, 16}, [][]int{{1, 0}, {1, 0}, {1, 0}, {1, 0}}, 2, []int{0, 4}}},
		// With further seats up to SeatMax, all that is missing is made up for.
		{four, 1, 16, 1, []int{0, 1}, leveled{[]int{20, 16}, [][]int{{1, 0}, {1, 0}, {1, 0}, {1, 0}}, 2, []int{7, 9}}},
		// Other parties are ahead in the districts, but all have what is due.
		{three, 3, 2, 1, []int{0, 1, 2}, leveled{[]int{90, 80, 10}, [][]int{{2, 1, 0}, {1, 2, 0}}, 0, []int{1, 1, 0}}},
		{three, 3, 4, 2, []int{0, 1, 2}, leveled{[]int{90, 80, 10}, [][]int{{2, 1, 0}, {1, 2, 0}}, 0, []int{2, 1, 1}}},
		{three, 3, 3, 2, []int{0, 1, 2}, leveled{[]int{90, 80, 10}, [][]int{{2, 1, 0}, {1, 2, 0}}, 0, []int{2, 1, 0}}},
		{three, 3, 3, 2, []int{2, 0, 1}, leveled{[]int{90, 80, 10}, [][]int{{2, 1, 0}, {1, 2, 0}}, 0, []int{1, 1, 1}}},
	})
}

func TestDistrictsExamplesOfOneFew(t *testing.T) {
	five := [][]int{{5, 4, 3, 2, 1}, {1, 2, 3, 4, 5}}
	each := [][]int{{1, 1, 0, 0, 0}, {0, 0, 0, 1, 1}}
	lots := []int{2, 0, 4, 1, 3}
	over := [][]int{{1, 9, 9}, {1, 0, 0}, {1, 0, 0}, {1, 0, 0}}
	first, all := [][]int{{0, 1, 0}, {1, 0, 0}, {1, 0, 0}, {1, 0, 0}}, []int{4, 9, 9}
	checkDistricts(t, []districtsExample{
		// The party in the middle of both districts has a seat less than is due.
		{five, 2, 0, 1, lots, leveled{[]int{6, 6, 6, 6, 6}, each, 1, []int{0, 0, 0, 0, 0}}},
		{five, 2, 1, 1, lots, leveled{[]int{6, 6, 6, 6, 6}, each, 1, []int{0, 0, 1, 0, 0}}},
		{five, 2, 2, 2, lots, leveled{[]int{6, 6, 6, 6, 6}, each, 1, []int{0, 0, 2, 0, 0}}},
		{five, 2, 3, 1, lots, leveled{[]int{6, 6, 6, 6, 6}, each, 1, []int{1, 0, 2, 0, 0}}},
		// The first party has three seats more than is due: only many further ones make up for them.
		{over, 1, 2, 1, []int{0, 1, 2}, leveled{all, first, 3, []int{0, 1, 1}}},
		{over, 1, 4, 1, []int{0, 1, 2}, leveled{all, first, 3, []int{0, 2, 2}}},
		{over, 1, 16, 1, []int{0, 1, 2}, leveled{all, first, 3, []int{1, 7, 8}}},
		{over, 1, 16, 1, []int{1, 2, 0}, leveled{all, first, 3, []int{0, 8, 8}}},
		{over, 1, 1, 1, []int{2, 1, 0}, leveled{all, [][]int{{0, 0, 1}, {1, 0, 0}, {1, 0, 0}, {1, 0, 0}}, 3, []int{0, 1, 0}}},
	})
}

func TestDistrictsExamplesAtTheEnds(t *testing.T) {
	two := [][]int{{6, 4}, {6, 4}}
	none := [][]int{{0, 0}, {0, 0}}
	for _, method := range bothMethods {
		checkDistricts(t, []districtsExample{
			// A single district has no gap, and all seats are by the same votes.
			{[][]int{{7, 5}}, 3, 2, method, []int{0, 1}, leveled{[]int{7, 5}, [][]int{{2, 1}}, 0, []int{1, 1}}},
			{[][]int{{7, 5}}, 0, 0, method, []int{0, 1}, leveled{[]int{7, 5}, [][]int{{0, 0}}, 0, []int{0, 0}}},
			{[][]int{{12, 8}}, 20, 0, method, []int{0, 1}, leveled{[]int{12, 8}, [][]int{{12, 8}}, 0, []int{0, 0}}},
			{[][]int{{1}}, 20, 0, method, []int{0}, leveled{[]int{1}, [][]int{{20}}, 0, []int{0}}},
			{[][]int{{99}}, 7, 13, method, []int{0}, leveled{[]int{99}, [][]int{{7}}, 0, []int{13}}},
			{[][]int{{0, 99, 0}}, 7, 13, method, []int{0, 1, 2}, leveled{[]int{0, 99, 0}, [][]int{{0, 7, 0}}, 0, []int{0, 13, 0}}},
			// The districts have no seats: further ones are all.
			{two, 0, 0, method, []int{0, 1}, leveled{[]int{12, 8}, none, 0, []int{0, 0}}},
			{two, 0, 1, method, []int{1, 0}, leveled{[]int{12, 8}, none, 0, []int{1, 0}}},
			{two, 0, 5, method, []int{0, 1}, leveled{[]int{12, 8}, none, 0, []int{3, 2}}},
			{two, 0, 20, method, []int{0, 1}, leveled{[]int{12, 8}, none, 0, []int{12, 8}}},
			// Seats of all districts are SeatMax.
			{[][]int{{1, 0}, {0, 1}, {1, 0}, {0, 1}}, 5, 0, method, []int{0, 1}, leveled{[]int{2, 2}, [][]int{{5, 0}, {0, 5}, {5, 0}, {0, 5}}, 0, []int{0, 0}}},
			{[][]int{{1, 0}, {1, 0}, {1, 0}, {0, 3}}, 5, 0, method, []int{0, 1}, leveled{[]int{3, 3}, [][]int{{5, 0}, {5, 0}, {5, 0}, {0, 5}}, 5, []int{0, 0}}},
			{[][]int{{5, 0}, {0, 95}}, 10, 0, method, []int{0, 1}, leveled{[]int{5, 95}, [][]int{{10, 0}, {0, 10}}, 9, []int{0, 0}}},
			// Parties have no votes in one district, or in all.
			{[][]int{{5, 0}, {0, 5}}, 2, 1, method, []int{0, 1}, leveled{[]int{5, 5}, [][]int{{2, 0}, {0, 2}}, 0, []int{1, 0}}},
			{[][]int{{5, 0}, {0, 5}}, 2, 1, method, []int{1, 0}, leveled{[]int{5, 5}, [][]int{{2, 0}, {0, 2}}, 0, []int{0, 1}}},
			{[][]int{{3, 0, 1}, {1, 0, 3}}, 1, 3, method, []int{1, 2, 0}, leveled{[]int{4, 0, 4}, [][]int{{1, 0, 0}, {0, 0, 1}}, 0, []int{1, 0, 2}}},
			{[][]int{{0, 0, 0, 0, 1}, {0, 0, 0, 0, 98}}, 6, 8, method, []int{0, 1, 2, 3, 4}, leveled{[]int{0, 0, 0, 0, 99}, [][]int{{0, 0, 0, 0, 6}, {0, 0, 0, 0, 6}}, 0, []int{0, 0, 0, 0, 8}}},
		})
	}
	checkDistricts(t, []districtsExample{
		// The sums are VoteMax.
		{[][]int{{50, 1}, {49, 98}}, 10, 0, 1, []int{0, 1}, leveled{[]int{99, 99}, [][]int{{10, 0}, {3, 7}}, 3, []int{0, 0}}},
		{[][]int{{50, 1}, {49, 98}}, 1, 1, 1, []int{0, 1}, leveled{[]int{99, 99}, [][]int{{1, 0}, {0, 1}}, 0, []int{1, 0}}},
		{[][]int{{25, 1}, {25, 0}, {25, 0}, {24, 98}}, 1, 3, 1, []int{1, 0}, leveled{[]int{99, 99}, [][]int{{1, 0}, {1, 0}, {1, 0}, {0, 1}}, 1, []int{0, 3}}},
	})
}

func TestDistrictsOfManyVotes(t *testing.T) {
	last, gaps, districts := 0, 0, [5]int{}
	eachLevel(func(votes [][]int, seats int, further int, method int, lots []int) {
		got, due := mustTellAll(t, votes, seats, further, method, lots), dueDistricts(votes, seats, further, method, lots)
		if !sameLeveled(got, due) {
			t.Fatalf("%v with %d seats and %d further ones by method %d and lots %v are %v, not %v", votes, seats, further, method, lots, got, due)
		}
		districts[len(votes)]++
		if slices.Contains(got.all, 99) {
			last++
		}
		if got.gap > 0 {
			gaps++
		}
	})
	if slices.Min(districts[1:]) < 1000 || last < 1000 || gaps < 1000 {
		t.Errorf("there are as many districts %v times, sums are 99 %d times, and gaps are greater than 0 %d times", districts, last, gaps)
	}
}

func TestDistrictsOfAllFurtherSeats(t *testing.T) {
	for i, votes := range manyDistricts() {
		if i%23 != 0 {
			continue
		}
		orders := ordersOf(len(votes[0]))
		for seats := 0; seats*len(votes) <= 20; seats++ {
			for further := 0; further <= 20-seats*len(votes); further++ {
				method, lots := bothMethods[(i+further)%2], orders[(i+5*further)%len(orders)]
				due := dueDistricts(votes, seats, further, method, lots)
				if got := mustTellAll(t, votes, seats, further, method, lots); !sameLeveled(got, due) {
					t.Fatalf("%v with %d seats and %d further ones by method %d and lots %v are %v, not %v", votes, seats, further, method, lots, got, due)
				}
			}
		}
	}
}

func TestDistrictsValidExamples(t *testing.T) {
	for _, e := range []struct {
		votes [][]int
		want  bool
	}{
		{[][]int{{1}}, true}, {[][]int{{99}}, true}, {[][]int{{0}}, false}, {[][]int{{100}}, false},
		{[][]int{{0, 1}}, true}, {[][]int{{0, 0}}, false}, {[][]int{{-1, 1}}, false}, {[][]int{{0, 0, 0, 0, 1}}, true}, {[][]int{{0, 0, 0, 0, 0, 1}}, false},
		// There are no districts, as many as DistrictMax, or more.
		{nil, false}, {[][]int{}, false}, {[][]int{nil}, false}, {[][]int{{}}, false}, {[][]int{nil, nil}, false},
		{[][]int{{1}, {1}}, true}, {[][]int{{1}, {1}, {1}}, true}, {[][]int{{1}, {1}, {1}, {1}}, true}, {[][]int{{1}, {1}, {1}, {1}, {1}}, false}, {slices.Repeat([][]int{{1}}, 1000), false},
		// The sums are VoteMax, or one more.
		{[][]int{{50}, {49}}, true}, {[][]int{{50}, {50}}, false}, {[][]int{{49}, {50}}, true}, {[][]int{{98}, {1}}, true}, {[][]int{{99}, {1}}, false}, {[][]int{{1}, {99}}, false}, {[][]int{{99}, {99}}, false},
		{[][]int{{99, 1}, {0, 98}}, true}, {[][]int{{99, 1}, {0, 99}}, false}, {[][]int{{99, 1}, {1, 98}}, false}, {[][]int{{99, 0}, {0, 99}}, true},
		{[][]int{{25}, {25}, {25}, {24}}, true}, {[][]int{{25}, {25}, {25}, {25}}, false}, {[][]int{{96}, {1}, {1}, {1}}, true}, {[][]int{{97}, {1}, {1}, {1}}, false}, {[][]int{{1}, {1}, {1}, {97}}, false},
		{[][]int{{1, 1, 1, 1, 33}, {1, 1, 1, 1, 33}, {1, 1, 1, 1, 33}}, true}, {[][]int{{1, 1, 1, 1, 33}, {1, 1, 1, 1, 34}, {1, 1, 1, 1, 33}}, false}, {[][]int{{34, 1, 1, 1, 1}, {33, 1, 1, 1, 1}, {33, 1, 1, 1, 1}}, false},
		// A district has no votes, though others have some.
		{[][]int{{1, 2}, {0, 0}}, false}, {[][]int{{0, 0}, {1, 2}}, false}, {[][]int{{1, 2}, {0, 1}}, true}, {[][]int{{1, 0}, {0, 1}}, true}, {[][]int{{0, 1}, {0, 1}}, true},
		// A district has votes out of range, though the sums are in range.
		{[][]int{{100, 1}, {-1, 1}}, false}, {[][]int{{-1, 1}, {100, 1}}, false}, {[][]int{{5, 1}, {-1, 1}}, false}, {[][]int{{math.MaxInt}, {math.MinInt}}, false}, {[][]int{{math.MaxInt, 1}, {math.MaxInt, 1}, {2, 1}}, false}, {[][]int{{math.MinInt, 1}, {math.MinInt, 1}}, false},
		// The districts have different numbers of parties.
		{[][]int{{1, 1}, {1}}, false}, {[][]int{{1}, {1, 1}}, false}, {[][]int{{1, 1}, {1, 1, 0}}, false}, {[][]int{{1, 1, 0}, {1, 1}}, false}, {[][]int{{1, 1}, {1, 1}, {1}}, false}, {[][]int{{1, 1}, {1, 1}, {1, 1}, {1, 1, 1}}, false}, {[][]int{{1}, nil}, false}, {[][]int{nil, {1}}, false},
	} {
		if got := impl.DistrictsValid(e.votes); got != e.want {
			t.Errorf("DistrictsValid(%.200v) is %v", e.votes, got)
		}
		// What is due is right, too.
		if due := areDistricts(e.votes); due != e.want {
			t.Errorf("DistrictsValid(%.200v) is due to be %v", e.votes, due)
		}
	}
}

func TestDistrictsValidOfAllVotesOfTwoDistricts(t *testing.T) {
	for x := -1; x <= 101; x++ {
		for y := -1; y <= 101; y++ {
			for _, votes := range [][][]int{{{x}, {y}}, {{x, 0}, {y, 1}}, {{1, x}, {0, y}}, {{0, 99, x, 0, 0}, {1, 0, y, 0, 0}}} {
				due := areDistricts(votes)
				if got := impl.DistrictsValid(votes); got != due {
					t.Fatalf("DistrictsValid(%v) is %v", votes, got)
				}
				if !due {
					checkNoDistricts(t, votes, allOf(len(votes[0])))
				} else if got := mustAddUp(t, votes); !slices.Contains(got, x+y) {
					t.Fatalf("DistrictVotes(%v) returned %v", votes, got)
				}
			}
		}
	}
}

// invalidDistricts returns districts that are invalid: none, too many, with invalid votes, with different numbers of parties, or with too many votes together.
func invalidDistricts() [][][]int {
	lists := [][][]int{nil, {}}
	for n := 0; n <= 7; n++ {
		// Too many districts, or without parties, or with too many of them; all others of these are valid.
		for many := 1; many <= 6; many++ {
			lists = append(lists, sameRows(many, n, 1))
		}
		lists = append(lists, sameRows(1000, n, 1))
	}
	// Each district may be the one with invalid votes.
	for i, bad := range invalidVotes() {
		lists = append(lists, [][]int{bad})
		many := 2 + i%3
		for place := range many {
			rows := slices.Repeat([][]int{slices.Repeat([]int{1}, min(len(bad), 5))}, many)
			rows[place] = bad
			lists = append(lists, rows)
		}
	}
	for n := 1; n <= 5; n++ {
		for many := 2; many <= 4; many++ {
			for place := range many {
				for party := range n {
					// A single sum is too great, by one vote or by as many as there can be.
					for _, most := range []int{101 - many, 99} {
						rows := sameRows(many, n, 1)
						rows[place][party] = most
						lists = append(lists, rows)
					}
				}
				for other := 0; other <= 6; other++ {
					rows := sameRows(many, n, 1)
					rows[place] = slices.Repeat([]int{1}, other)
					lists = append(lists, rows)
				}
			}
		}
	}
	return slices.DeleteFunc(lists, areDistricts)
}

func TestInvalidDistricts(t *testing.T) {
	lists := invalidDistricts()
	if len(lists) < 4000 {
		t.Errorf("only %d districts are invalid", len(lists))
	}
	for _, votes := range lists {
		// There are valid lots of as many parties, if these are not too many; others are tried, too.
		n := 1
		if len(votes) > 0 {
			n = len(votes[0])
		}
		for _, lots := range [][]int{allOf(min(max(n, 1), 5)), {0, 1}} {
			checkNoDistricts(t, votes, lots)
		}
	}
}

func TestDistrictsOfInvalidNumbersOfSeats(t *testing.T) {
	// Some of these, multiplied by a few districts, would be 0 or a little more, since an int has no room.
	around := []int{math.MaxInt/2 + 1, math.MaxInt/2 + 2, math.MaxInt/2 + 6, math.MaxInt/4 + 1, math.MaxInt/3*2 + 2, math.MaxInt/3*2 + 3, math.MaxInt/3*2 + 7}
	for i, votes := range manyDistricts() {
		if i%5 != 0 {
			continue
		}
		many, lots, method := len(votes), allOf(len(votes[0])), bothMethods[i/5%2]
		most := 20 / many
		// As many as there can be are valid, and one more is not.
		if given := inAll(mustSeatEach(t, votes, most, method, lots)); sumOfCounts(given) != most*many {
			t.Fatalf("DistrictSeats(%v, %d, %d, %v) gives %v", votes, most, method, lots, given)
		}
		for _, seats := range slices.Concat(badPartySeats, around, []int{most + 1, most + 2, 2 * (most + 1), most + 20}) {
			checkNoDistrictSeats(t, votes, seats, method, lots)
		}
	}
}

func TestDistrictsOfInvalidMethods(t *testing.T) {
	for _, method := range badMethods {
		for i, votes := range manyDistricts() {
			if i%29 != 0 {
				continue
			}
			// Without seats, nobody asks for a divisor, but the method is still invalid.
			for seats := 0; seats*len(votes) <= 20; seats += 1 + i%3 {
				checkNoDistrictSeats(t, votes, seats, method, allOf(len(votes[0])))
			}
		}
	}
}

func TestDistrictsOfInvalidLots(t *testing.T) {
	for n := 1; n <= 5; n++ {
		// Valid lots of another number of parties are invalid here.
		lists := slices.Concat(invalidLots(), slices.DeleteFunc(allOrders(), func(lots []int) bool { return len(lots) == n }))
		for _, lots := range lists {
			for many := 1; many <= 4; many++ {
				for _, votes := range [][][]int{sameRows(many, n, 1), slices.Repeat([][]int{[]int{20, 7, 0, 10, 5}[:n]}, many)} {
					for _, method := range bothMethods {
						// Without seats, nobody asks for a lot, but they are still invalid.
						for _, seats := range []int{0, 1, 20 / many} {
							checkNoDistrictSeats(t, votes, seats, method, lots)
						}
					}
				}
			}
		}
	}
}

func TestDistrictsOfInvalidFurtherSeats(t *testing.T) {
	for i, votes := range manyDistricts() {
		if i%7 != 0 {
			continue
		}
		lots, method := allOf(len(votes[0])), bothMethods[i/7%2]
		for seats := 0; seats*len(votes) <= 20; seats++ {
			room := 20 - seats*len(votes)
			// As many as there is room for are valid, and one more is not.
			mustLevel(t, votes, seats, room, method, lots)
			for _, further := range slices.Concat(badFurther, []int{room + 1, room + 2, -room - 1}) {
				checkNoLevel(t, votes, seats, further, method, lots)
			}
		}
	}
}

func TestPromise105AllVotesAreThoseOfAllDistricts(t *testing.T) {
	last, several := 0, 0
	for _, votes := range manyDistricts() {
		got, sum := mustAddUp(t, votes), 0
		for _, district := range votes {
			sum += sumOfCounts(district)
		}
		if sumOfCounts(got) != sum {
			t.Fatalf("DistrictVotes(%v) returned %v", votes, got)
		}
		for party, many := range got {
			for _, district := range votes {
				many -= district[party]
			}
			if many != 0 {
				t.Fatalf("DistrictVotes(%v) returned %v", votes, got)
			}
		}
		if again := mustAddUp(t, turnedRows(votes)); !slices.Equal(again, got) {
			t.Fatalf("DistrictVotes(%v) returned %v, and %v with the first district as the last one", votes, got, again)
		}
		if slices.Max(got) == 99 {
			last++
		}
		if len(votes) > 1 {
			several++
		}
	}
	if last < 300 || several < 1000 {
		t.Errorf("a sum is 99 %d times, and there are several districts %d times", last, several)
	}
}

// turnedRows returns rows with the first one as the last one.
func turnedRows(rows [][]int) [][]int {
	return append(slices.Clone(rows[1:]), rows[0])
}

func TestPromise105TheFirstDistrictIsTheLastOne(t *testing.T) {
	others := 0
	eachLevel(func(votes [][]int, seats int, further int, method int, lots []int) {
		want := mustTellAll(t, votes, seats, further, method, lots)
		want.each = turnedRows(want.each)
		if got := mustTellAll(t, turnedRows(votes), seats, further, method, lots); !sameLeveled(got, want) {
			t.Fatalf("%v with %d seats and %d further ones by method %d and lots %v are %v with the first district as the last one, not %v", votes, seats, further, method, lots, got, want)
		}
		if !slices.Equal(want.each[0], want.each[len(votes)-1]) {
			others++
		}
	})
	if others < 1000 {
		t.Errorf("the first district has other seats than the last one only %d times", others)
	}
}

func TestPromise106EachDistrictHasItsSeats(t *testing.T) {
	none, full := 0, 0
	eachDistricts(func(votes [][]int, seats int, method int, lots []int) {
		for i, got := range mustSeatEach(t, votes, seats, method, lots) {
			if want := mustSeat(t, votes[i], seats, method, lots); sumOfCounts(got) != seats || !slices.Equal(got, want) {
				t.Fatalf("DistrictSeats(%v, %d, %d, %v) gives %v in district %d, not %v", votes, seats, method, lots, got, i, want)
			}
		}
		switch seats * len(votes) {
		case 0:
			none++
		case 20:
			full++
		}
	})
	if none < 1000 || full < 1000 {
		t.Errorf("districts have no seats %d times, and SeatMax together %d times", none, full)
	}
}

func TestPromise107NoGapIsMoreThanAllSeats(t *testing.T) {
	single, most, gaps := 0, 0, 0
	eachDistricts(func(votes [][]int, seats int, method int, lots []int) {
		gap := mustHaveGap(t, votes, seats, method, lots)
		if gap > seats*len(votes) || len(votes) == 1 && gap != 0 || seats == 0 && gap != 0 {
			t.Fatalf("DistrictGap(%v, %d, %d, %v) returned %d", votes, seats, method, lots, gap)
		}
		switch {
		case len(votes) == 1:
			single++
		case gap > 0:
			gaps++
		}
		most = max(most, gap)
	})
	if single < 1000 || gaps < 1000 || most < 10 {
		t.Errorf("a district is alone %d times, gaps are greater than 0 %d times, and at most %d", single, gaps, most)
	}
}

func TestPromise108TheGapIsWhatSomeHaveMore(t *testing.T) {
	gaps, both := 0, 0
	eachDistricts(func(votes [][]int, seats int, method int, lots []int) {
		given := inAll(mustSeatEach(t, votes, seats, method, lots))
		due := mustSeat(t, mustAddUp(t, votes), seats*len(votes), method, lots)
		more, fewer, parties := 0, 0, 0
		for party, many := range given {
			if many > due[party] {
				more += many - due[party]
				parties++
			} else {
				fewer += due[party] - many
			}
		}
		if gap := mustHaveGap(t, votes, seats, method, lots); gap != more || gap != fewer {
			t.Fatalf("DistrictGap(%v, %d, %d, %v) returned %d, but parties have %d more and %d fewer", votes, seats, method, lots, gap, more, fewer)
		}
		if more > 1 {
			gaps++
		}
		if parties > 1 {
			both++
		}
	})
	if gaps < 1000 || both < 100 {
		t.Errorf("gaps are greater than 1 %d times, and several parties have more %d times", gaps, both)
	}
}

func TestPromise109FurtherSeatsAreGivenOneByOne(t *testing.T) {
	without, full := 0, 0
	eachLevel(func(votes [][]int, seats int, further int, method int, lots []int) {
		all, got := mustAddUp(t, votes), mustLevel(t, votes, seats, further, method, lots)
		if sumOfCounts(got) != further {
			t.Fatalf("DistrictLevel(%v, %d, %d, %d, %v) returned %v", votes, seats, further, method, lots, got)
		}
		for party, many := range got {
			switch {
			case all[party] > 0:
			case many > 0:
				t.Fatalf("DistrictLevel(%v, %d, %d, %d, %v) returned %v, with seats without votes", votes, seats, further, method, lots, got)
			default:
				without++
			}
		}
		if further+seats*len(votes) == 20 {
			full++
		}
		if further == 0 {
			return
		}
		before := mustLevel(t, votes, seats, further-1, method, lots)
		for party, many := range before {
			if many > got[party] {
				t.Fatalf("DistrictLevel(%v, %d, %d, %d, %v) returned %v, and %v for one seat less", votes, seats, further, method, lots, got, before)
			}
		}
		// The last seat goes to the party of SeatsNext.
		given := inAll(append(mustSeatEach(t, votes, seats, method, lots), before))
		before[mustBeNext(t, all, given, method, lots)]++
		if !slices.Equal(before, got) {
			t.Fatalf("DistrictLevel(%v, %d, %d, %d, %v) returned %v, not %v", votes, seats, further, method, lots, got, before)
		}
	})
	if without < 1000 || full < 1000 {
		t.Errorf("there are parties without votes %d times, and all seats together are SeatMax %d times", without, full)
	}
}

func TestPromise110FurtherSeatsMakeUpForAllThatIsMissing(t *testing.T) {
	levels, gaps, tooMany := 0, 0, 0
	eachLevel(func(votes [][]int, seats int, further int, method int, lots []int) {
		given, got := inAll(mustSeatEach(t, votes, seats, method, lots)), mustLevel(t, votes, seats, further, method, lots)
		due, enough := mustSeat(t, mustAddUp(t, votes), seats*len(votes)+further, method, lots), true
		for party, many := range due {
			missing := many - given[party]
			// No party gets more than is missing, and one that has too many gets nothing.
			if got[party] > max(missing, 0) {
				t.Fatalf("DistrictLevel(%v, %d, %d, %d, %v) returned %v, which is more than is missing to %v behind %v", votes, seats, further, method, lots, got, due, given)
			}
			enough = enough && missing >= 0
		}
		if !enough {
			tooMany++
			return
		}
		if together := inAll([][]int{given, got}); !slices.Equal(together, due) {
			t.Fatalf("DistrictLevel(%v, %d, %d, %d, %v) returned %v, with which all seats are %v, not %v", votes, seats, further, method, lots, got, together, due)
		}
		levels++
		if further > 0 && mustHaveGap(t, votes, seats, method, lots) > 0 {
			gaps++
		}
	})
	if levels < 1000 || gaps < 1000 || tooMany < 1000 {
		t.Errorf("further seats make up for all %d times, with a gap before %d times, and a party has too many %d times", levels, gaps, tooMany)
	}
}

func TestPromise111AFurtherPartyInOneDistrict(t *testing.T) {
	several := 0
	for i, votes := range manyDistricts() {
		// The first one alone is valid, and each other one, too.
		for _, district := range votes {
			if got := mustAddUp(t, [][]int{district}); !slices.Equal(got, district) {
				t.Fatalf("DistrictVotes([%v]) returned %v", district, got)
			}
		}
		if len(votes) == 1 {
			continue
		}
		several++
		n := len(votes[0])
		for place, district := range votes {
			for _, number := range []int{0, 1, 99} {
				further := slices.Clone(votes)
				further[place] = with(district, []int{0, n, i % (n + 1)}[i%3], number)
				checkNoDistricts(t, further, allOf(min(n+i%2, 5)))
			}
			fewer := slices.Clone(votes)
			fewer[place] = district[:n-1]
			checkNoDistricts(t, fewer, allOf(max(n-i%2, 1)))
		}
	}
	if several < 1000 {
		t.Errorf("there are several districts only %d times", several)
	}
}

func TestPromise111AFurtherPartyInEachDistrict(t *testing.T) {
	fewer, most := 0, 0
	for _, votes := range manyDistricts() {
		further := [][]int{}
		for i, district := range votes {
			further = append(further, append(slices.Clone(district), i))
		}
		if len(votes[0]) == 5 {
			// There are too many parties then.
			checkNoDistricts(t, further, allOf(5))
			most++
			continue
		}
		mustAddUp(t, further)
		fewer++
	}
	if fewer < 1000 || most < 100 {
		t.Errorf("there is room for a further party %d times, and none %d times", fewer, most)
	}
}

func TestDistrictsWithASingleDistrict(t *testing.T) {
	eachSeating(func(votes []int, method int, lots []int) {
		for _, seats := range []int{0, 1, 7, 20} {
			want := mustSeat(t, votes, seats, method, lots)
			each := mustSeatEach(t, [][]int{votes}, seats, method, lots)
			// All seats are given by the same votes: the district's own, and the further ones.
			level := mustLevel(t, [][]int{votes}, 0, seats, method, lots)
			if !sameTable(each, [][]int{want}) || !slices.Equal(level, want) {
				t.Fatalf("%d seats of %v by method %d and lots %v are %v in the district, and %v as further ones, not %v", seats, votes, method, lots, each, level, want)
			}
		}
	})
}

func TestDistrictsArgumentsAreNotChanged(t *testing.T) {
	for i, votes := range slices.Concat(manyDistricts(), invalidDistricts()) {
		if len(votes) > 5 {
			continue
		}
		// What is in the spare capacity belongs to the caller, too.
		own, rows, kept := [][]int{}, [][]int{}, [][]int{}
		for _, district := range votes {
			own = append(own, append(slices.Clone(district), 41, 42))
			kept = append(kept, append(slices.Clone(district), 41, 42))
			rows = append(rows, own[len(own)-1][:len(district)])
		}
		n := 1
		if len(votes) > 0 {
			n = min(max(len(votes[0]), 1), 5)
		}
		lots := append(allOf(n), 45, 46)
		seats, method := i%6, bothMethods[i%2]
		impl.DistrictsValid(rows)
		impl.DistrictVotes(rows)
		impl.DistrictSeats(rows, seats, method, lots[:n])
		impl.DistrictGap(rows, seats, method, lots[:n])
		impl.DistrictLevel(rows, seats, i%5, method, lots[:n])
		if !sameTable(own, kept) || !sameTable(rows, votes) || !slices.Equal(lots, append(allOf(n), 45, 46)) {
			t.Fatalf("%.300v have become %.300v, and the lots %v", kept, own, lots)
		}
	}
}

func TestDistrictsShareNoMemory(t *testing.T) {
	eachLevel(func(votes [][]int, seats int, further int, method int, lots []int) {
		own, ownLots := [][]int{}, slices.Clone(lots)
		for _, district := range votes {
			own = append(own, slices.Clone(district))
		}
		first, second := mustTellAll(t, own, seats, further, method, ownLots), mustTellAll(t, own, seats, further, method, ownLots)
		kept := dueDistricts(votes, seats, further, method, lots)
		for _, row := range append(first.each, first.all, first.level) {
			spoil(row)
		}
		for i := range votes {
			// All other rows stay as they are when one of them is changed.
			rows := mustSeatEach(t, own, seats, method, ownLots)
			spoil(rows[i])
			if rows[i] = kept.each[i]; !sameTable(rows, kept.each) {
				t.Fatalf("the seats of all districts have become %v, not %v, with those of district %d", rows, kept.each, i)
			}
		}
		if !sameTable(own, votes) || !slices.Equal(ownLots, lots) {
			t.Fatalf("%v and %v have become %v and %v", votes, lots, own, ownLots)
		}
		// Nothing reads the arguments any more.
		for _, row := range append(own, ownLots) {
			spoil(row)
		}
		if !sameLeveled(second, kept) {
			t.Fatalf("%v have become %v", kept, second)
		}
	})
}

func TestDistrictsAreTheSameAtTheSameTime(t *testing.T) {
	votes, lots := [][]int{{60, 30, 10}, {30, 50, 0}}, []int{0, 1, 2}
	each := [][]int{{2, 1, 0}, {1, 2, 0}}
	wants := []leveled{{[]int{90, 80, 10}, each, 0, []int{2, 2, 0}}, {[]int{90, 80, 10}, each, 0, []int{2, 1, 1}}}
	var callers sync.WaitGroup
	for k := range 8 {
		method, want := bothMethods[k%2], wants[k%2]
		callers.Go(func() {
			for range 200 {
				got := leveled{gap: impl.DistrictGap(votes, 3, method, lots)}
				got.all, _ = impl.DistrictVotes(votes)
				got.each, _ = impl.DistrictSeats(votes, 3, method, lots)
				got.level, _ = impl.DistrictLevel(votes, 3, 4, method, lots)
				if !sameLeveled(got, want) || !impl.DistrictsValid(votes) {
					t.Errorf("%v were %v, then %v", votes, want, got)
				}
			}
		})
	}
	callers.Wait()
}
