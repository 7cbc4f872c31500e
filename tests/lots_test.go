package tests

import (
	"math"
	"slices"
	"testing"

	"loop.example/tallyaudit/impl"
)

// badSeeds are numbers that are never a seed, nor a secret.
var badSeeds = []int{math.MinInt, math.MinInt + 1, math.MinInt32, -1000003, -1000, -999, -120, -2, -1, 1000, 1001, 1023, 1119, 65536, 1000003, math.MaxInt32, math.MaxInt - 1, math.MaxInt}

// ordersOf returns all orders of n candidates.
func ordersOf(n int) [][]int {
	return slices.DeleteFunc(ballotsOf(n), func(b []int) bool { return len(b) != n })
}

// allOrders returns all orders of 1 to 5 candidates.
func allOrders() [][]int {
	all := [][]int{}
	for n := 1; n <= 5; n++ {
		all = append(all, ordersOf(n)...)
	}
	return all
}

// invalidLots returns lists that are no lots: empty, too many, out of range, or with a candidate twice or left out.
func invalidLots() [][]int {
	lists := [][]int{
		nil, {}, {1}, {4}, {5}, {-1}, {0, 2}, {2, 0}, {1, 2}, {2, 1}, {3, 4}, {1, 1}, {0, 1, 3}, {1, 2, 3}, {0, 1, 2, 4}, {4, 3, 2, 1},
		{1, 2, 3, 4, 5}, {5, 4, 3, 2, 1}, {0, 1, 2, 3, 5}, {0, 1, 2, 3, 3}, {0, 0, 0, 0, 0}, {0, 0, 1, 2, 3, 4},
		{0, 1, 2, 3, 4, 0}, {5, 4, 3, 2, 1, 0}, {0, 1, 2, 3, 4, 5, 6}, make([]int, 100),
	}
	for _, order := range ordersOf(4) {
		lists = append(lists, append(slices.Clone(order), order[0]), append(slices.Clone(order), 5), append(slices.Clone(order), 4, 5))
	}
	many := []int{}
	for c := range 1000 {
		many = append(many, c)
	}
	return append(append(lists, many), invalidLists()...)
}

// areLots is the document's definition of valid lots, in other words.
func areLots(list []int) bool {
	for i, c := range slices.Sorted(slices.Values(list)) {
		if c != i {
			return false
		}
	}
	return len(list) >= 1 && len(list) <= 5
}

// drawn is what the document says of LotsOf for valid arguments, in other words.
func drawn(n int, seed int) []int {
	left := []int{0, 1, 2, 3, 4}[:n]
	lots := []int{}
	for len(left) > 0 {
		index := seed % len(left)
		seed = seed / len(left)
		lots = append(lots, left[index])
		left = without(left, index)
	}
	return lots
}

// factorial returns the number of orders of n candidates.
func factorial(n int) int {
	if n == 0 {
		return 1
	}
	return n * factorial(n-1)
}

// mustLots returns the lots of a seed, which must be those that are due.
func mustLots(t *testing.T, n int, seed int) []int {
	t.Helper()
	lots, ok := impl.LotsOf(n, seed)
	if !ok || !slices.Equal(lots, drawn(n, seed)) {
		t.Fatalf("LotsOf(%d, %d) returned %v, %v", n, seed, lots, ok)
	}
	return lots
}

func TestSeedMax(t *testing.T) {
	if impl.SeedMax != 999 {
		t.Errorf("SeedMax is %d", impl.SeedMax)
	}
}

func TestLotsValidExamples(t *testing.T) {
	for _, e := range []struct {
		list []int
		want bool
	}{
		{nil, false}, {[]int{}, false},
		{[]int{0}, true}, {[]int{1}, false}, {[]int{-1}, false},
		{[]int{0, 1}, true}, {[]int{1, 0}, true}, {[]int{0, 0}, false}, {[]int{1, 1}, false}, {[]int{1, 2}, false}, {[]int{0, 2}, false},
		{[]int{2, 0, 1}, true}, {[]int{2, 0, 2}, false}, {[]int{3, 0, 1}, false}, {[]int{2, -1, 1}, false},
		{[]int{0, 1, 2, 3, 4}, true}, {[]int{4, 3, 2, 1, 0}, true}, {[]int{4, 3, 2, 1, 4}, false}, {[]int{5, 4, 3, 2, 1}, false},
		{[]int{0, 1, 2, 3, 4, 5}, false}, {[]int{0, 1, 2, 3, 4, 0}, false},
	} {
		if got := impl.LotsValid(e.list); got != e.want {
			t.Errorf("LotsValid(%v) returned %v", e.list, got)
		}
	}
}

func TestLotsValidOfAllSmallLists(t *testing.T) {
	valid := 0
	for _, list := range listsOf(-1, 5, 6) {
		if got := impl.LotsValid(list); got != areLots(list) {
			t.Fatalf("LotsValid(%v) returned %v", list, got)
		}
		if areLots(list) {
			valid++
		}
	}
	if valid != 1+2+6+24+120 {
		t.Errorf("%d lists are lots", valid)
	}
	for _, list := range invalidLots() {
		if areLots(list) || impl.LotsValid(list) {
			t.Errorf("LotsValid(%.100v) is true", list)
		}
	}
}

func TestLotsOfExamples(t *testing.T) {
	for _, e := range []struct {
		n, seed int
		want    []int
	}{
		{1, 0, []int{0}}, {1, 1, []int{0}}, {1, 999, []int{0}},
		{2, 0, []int{0, 1}}, {2, 1, []int{1, 0}}, {2, 2, []int{0, 1}}, {2, 999, []int{1, 0}},
		{3, 0, []int{0, 1, 2}}, {3, 1, []int{1, 0, 2}}, {3, 2, []int{2, 0, 1}},
		{3, 3, []int{0, 2, 1}}, {3, 4, []int{1, 2, 0}}, {3, 5, []int{2, 1, 0}}, {3, 6, []int{0, 1, 2}}, {3, 998, []int{2, 0, 1}}, {3, 999, []int{0, 2, 1}},
		{4, 0, []int{0, 1, 2, 3}}, {4, 1, []int{1, 0, 2, 3}}, {4, 4, []int{0, 2, 1, 3}}, {4, 11, []int{3, 2, 0, 1}}, {4, 12, []int{0, 1, 3, 2}}, {4, 23, []int{3, 2, 1, 0}}, {4, 24, []int{0, 1, 2, 3}}, {4, 999, []int{3, 0, 2, 1}},
		{5, 0, []int{0, 1, 2, 3, 4}}, {5, 4, []int{4, 0, 1, 2, 3}}, {5, 5, []int{0, 2, 1, 3, 4}}, {5, 20, []int{0, 1, 3, 2, 4}}, {5, 60, []int{0, 1, 2, 4, 3}},
		{5, 119, []int{4, 3, 2, 1, 0}}, {5, 120, []int{0, 1, 2, 3, 4}}, {5, 121, []int{1, 0, 2, 3, 4}}, {5, 959, []int{4, 3, 2, 1, 0}}, {5, 960, []int{0, 1, 2, 3, 4}}, {5, 999, []int{4, 3, 1, 0, 2}},
	} {
		if got, ok := impl.LotsOf(e.n, e.seed); !ok || !slices.Equal(got, e.want) {
			t.Errorf("LotsOf(%d, %d) returned %v, %v, not %v", e.n, e.seed, got, ok, e.want)
		}
	}
}

func TestPromise23LotsOfAllSeeds(t *testing.T) {
	for n := 1; n <= 5; n++ {
		for seed := 0; seed <= 999; seed++ {
			if lots := mustLots(t, n, seed); len(lots) != n || !areLots(lots) || !impl.LotsValid(lots) {
				t.Fatalf("LotsOf(%d, %d) returned %v", n, seed, lots)
			}
		}
	}
}

func TestPromise23LotsOfInvalidArguments(t *testing.T) {
	numbers := append([]int{0, 1, 2, 3, 4, 5}, oddNumbers...)
	seeds := append([]int{0, 1, 5, 119, 120, 500, 998, 999}, badSeeds...)
	for _, n := range numbers {
		for _, seed := range seeds {
			if n >= 1 && n <= 5 && seed >= 0 && seed <= 999 {
				continue
			}
			if lots, ok := impl.LotsOf(n, seed); ok || len(lots) != 0 {
				t.Errorf("LotsOf(%d, %d) returned %v, %v", n, seed, lots, ok)
			}
		}
	}
}

func TestPromise24SeedsThatRepeat(t *testing.T) {
	for n := 1; n <= 5; n++ {
		for seed := 0; seed <= 999; seed++ {
			first := mustLots(t, n, seed)
			again, ok := impl.LotsOf(n, seed+factorial(n))
			if ok != (seed+factorial(n) <= 999) {
				t.Fatalf("LotsOf(%d, %d) returned %v, %v", n, seed+factorial(n), again, ok)
			}
			if ok && !slices.Equal(first, again) {
				t.Fatalf("LotsOf %d candidates is %v for %d, and %v for %d", n, first, seed, again, seed+factorial(n))
			}
		}
	}
}

func TestSeedsDoNotRepeatBefore(t *testing.T) {
	for n := 1; n <= 5; n++ {
		texts := map[string]int{}
		for seed := range factorial(n) {
			text := lettersOf(mustLots(t, n, seed))
			if other, twice := texts[text]; twice {
				t.Fatalf("the lots of %d candidates are %q for %d and for %d", n, text, other, seed)
			}
			texts[text] = seed
		}
		// Each order is that of one seed: candidates are treated alike.
		for _, order := range ordersOf(n) {
			if _, ok := texts[lettersOf(order)]; !ok {
				t.Errorf("no seed has the lots %v", order)
			}
		}
	}
}

func TestPromise25FirstTwoLotsExchanged(t *testing.T) {
	for n := 2; n <= 5; n++ {
		other := map[string]int{}
		for seed := range 120 {
			other[lettersOf(mustLots(t, n, seed))] = seed
		}
		for seed := 0; seed <= 999; seed++ {
			lots := mustLots(t, n, seed)
			lots[0], lots[1] = lots[1], lots[0]
			found, ok := other[lettersOf(lots)]
			if !ok || found == seed {
				t.Fatalf("no other seed less than 120 has the lots %v of %d candidates", lots, n)
			}
		}
	}
}

func TestEachOrderOfTwoLots(t *testing.T) {
	for _, e := range []struct {
		seed int
		lots []int
		both int
	}{
		{0, []int{0, 1}, 0}, {1, []int{1, 0}, 1}, {998, []int{0, 1}, 0}, {999, []int{1, 0}, 1},
	} {
		lots := mustLots(t, 2, e.seed)
		if !slices.Equal(lots, e.lots) || !impl.LotsValid(lots) {
			t.Errorf("LotsOf(2, %d) returned %v", e.seed, lots)
		}
		for some, want := range map[[2]bool]int{{false, false}: -1, {true, false}: 0, {false, true}: 1, {true, true}: e.both} {
			if got := impl.LotsFirst(lots, some[:]); got != want {
				t.Errorf("LotsFirst(%v, %v) returned %d", lots, some, got)
			}
		}
	}
}

func TestLotsFirstExamples(t *testing.T) {
	for _, e := range []struct {
		lots []int
		some []bool
		want int
	}{
		{[]int{2, 1, 0}, []bool{true, true, false}, 1},
		{[]int{2, 1, 0}, []bool{true, true, true}, 2},
		{[]int{2, 1, 0}, []bool{true, false, false}, 0},
		{[]int{2, 1, 0}, []bool{false, false, false}, -1},
		{[]int{1, 2, 0}, []bool{true, false, true}, 2},
		{[]int{0}, []bool{true}, 0}, {[]int{0}, []bool{false}, -1},
		{[]int{3, 0, 4, 1, 2}, []bool{false, true, true, false, true}, 4},
		{[]int{4, 3, 2, 1, 0}, []bool{true, true, true, true, true}, 4},
		{[]int{4, 3, 2, 1, 0}, make([]bool, 5), -1},
		// There are fewer or more elements than lots.
		{[]int{2, 1, 0}, []bool{true, true}, -1}, {[]int{0, 1, 2}, []bool{true, true}, -1}, {[]int{2, 1, 0}, []bool{true, true, true, true}, -1}, {[]int{2, 1, 0}, nil, -1},
		{[]int{0}, nil, -1}, {[]int{0}, []bool{true, true}, -1}, {[]int{0, 1, 2, 3, 4}, slices.Repeat([]bool{true}, 6), -1},
		// The lots are invalid.
		{nil, nil, -1}, {nil, []bool{true}, -1}, {[]int{}, []bool{}, -1},
		{[]int{1}, []bool{true}, -1}, {[]int{0, 0}, []bool{true, true}, -1}, {[]int{0, 2}, []bool{true, true}, -1}, {[]int{0, 2}, []bool{true, true, true}, -1}, {[]int{0, -1}, []bool{true, true}, -1},
		{[]int{0, 1, 2, 3, 4, 5}, slices.Repeat([]bool{true}, 6), -1},
	} {
		if got := impl.LotsFirst(e.lots, e.some); got != e.want {
			t.Errorf("LotsFirst(%v, %v) returned %d", e.lots, e.some, got)
		}
	}
}

func TestPromise26NoEarlierLot(t *testing.T) {
	for _, lots := range allOrders() {
		for _, some := range masksOf(len(lots)) {
			first := impl.LotsFirst(lots, some)
			if (first == -1) != !slices.Contains(some, true) {
				t.Fatalf("LotsFirst(%v, %v) returned %d", lots, some, first)
			}
			if first == -1 {
				continue
			}
			place := slices.Index(lots, first)
			if place == -1 || !some[first] {
				t.Fatalf("LotsFirst(%v, %v) returned %d", lots, some, first)
			}
			for c, one := range some {
				if one && slices.Index(lots, c) < place {
					t.Fatalf("LotsFirst(%v, %v) returned %d, though %d has an earlier lot", lots, some, first, c)
				}
			}
		}
	}
}

func TestPromise26NobodyOrOne(t *testing.T) {
	for _, lots := range allOrders() {
		some := make([]bool, len(lots))
		if first := impl.LotsFirst(lots, some); first != -1 {
			t.Errorf("LotsFirst(%v, %v) returned %d", lots, some, first)
		}
		for c := range some {
			some[c] = true
			if first := impl.LotsFirst(lots, some); first != c {
				t.Errorf("LotsFirst(%v, %v) returned %d", lots, some, first)
			}
			some[c] = false
		}
	}
}

func TestLotsFirstOfInvalidArguments(t *testing.T) {
	for _, lots := range allOrders() {
		for n := range 9 {
			if n == len(lots) {
				continue
			}
			if first := impl.LotsFirst(lots, slices.Repeat([]bool{true}, n)); first != -1 {
				t.Errorf("LotsFirst(%v) of %d elements returned %d", lots, n, first)
			}
		}
	}
	for _, lots := range append(listsOf(-1, 5, 5), invalidLots()...) {
		if areLots(lots) {
			continue
		}
		for _, n := range []int{0, 1, 2, 5, 6, len(lots), 1000} {
			if first := impl.LotsFirst(lots, slices.Repeat([]bool{true}, n)); first != -1 {
				t.Fatalf("LotsFirst(%.100v) of %d elements returned %d", lots, n, first)
			}
		}
	}
}

func TestPromise27FirstTwiceAndOtherDirection(t *testing.T) {
	for _, lots := range allOrders()[1:] {
		if !impl.LotsValid(lots) {
			t.Errorf("LotsValid(%v) is false", lots)
		}
		twice := slices.Clone(lots)
		twice[len(twice)-1] = twice[0]
		if impl.LotsValid(twice) {
			t.Errorf("LotsValid(%v) is true", twice)
		}
		turned := slices.Clone(lots)
		slices.Reverse(turned)
		if !impl.LotsValid(turned) {
			t.Errorf("LotsValid(%v) is false", turned)
		}
	}
}

func TestLotsSealExamples(t *testing.T) {
	for _, e := range []struct {
		seed, secret, want int
	}{
		{0, 0, 12345}, {1, 0, 20264}, {0, 1, 117074}, {1, 1, 124993}, {2, 0, 28183}, {0, 2, 221803},
		// Before and behind the modulus.
		{124, 0, 994301}, {125, 0, 2217}, {0, 9, 954906}, {0, 10, 59632},
		{999, 0, 923405}, {0, 999, 636304}, {999, 999, 547361}, {999, 1, 28131}, {1, 999, 644223},
		{-1, 0, -1}, {0, -1, -1}, {-1, -1, -1}, {1000, 0, -1}, {0, 1000, -1}, {1000, 1000, -1}, {999, 1000, -1}, {1000, 999, -1}, {-1, 999, -1}, {999, -1, -1},
	} {
		if got := impl.LotsSeal(e.seed, e.secret); got != e.want {
			t.Errorf("LotsSeal(%d, %d) returned %d, not %d", e.seed, e.secret, got, e.want)
		}
	}
}

func TestLotsSealOfInvalidArguments(t *testing.T) {
	for _, bad := range badSeeds {
		for _, other := range append([]int{0, 1, 500, 998, 999}, badSeeds...) {
			if got := impl.LotsSeal(bad, other); got != -1 {
				t.Errorf("LotsSeal(%d, %d) returned %d", bad, other, got)
			}
			if got := impl.LotsSeal(other, bad); got != -1 {
				t.Errorf("LotsSeal(%d, %d) returned %d", other, bad, got)
			}
		}
	}
}

// stepped is a seal that has grown by a step, modulo 1000003.
func stepped(seal int, step int) int {
	seal += step
	if seal >= 1000003 {
		seal -= 1000003
	}
	return seal
}

func TestPromise28AllSealsOfASecret(t *testing.T) {
	// The number of the last secret, counted from 1, that has a seal with some seed.
	last := make([]int, 1000003)
	start := 12345
	for secret := 0; secret <= 999; secret++ {
		want := start
		for seed := 0; seed <= 999; seed++ {
			seal := impl.LotsSeal(seed, secret)
			if seal != want {
				t.Fatalf("LotsSeal(%d, %d) returned %d, not %d", seed, secret, seal, want)
			}
			if last[seal] == secret+1 {
				t.Fatalf("LotsSeal(%d, %d) returned %d, as for a lesser seed", seed, secret, seal)
			}
			last[seal] = secret + 1
			want = stepped(want, 7919)
		}
		start = stepped(start, 104729)
	}
}

func TestPromise28AllSealsOfASeed(t *testing.T) {
	last := make([]int, 1000003)
	for seed := 0; seed <= 999; seed++ {
		for secret := 0; secret <= 999; secret++ {
			seal := impl.LotsSeal(seed, secret)
			if seal < 0 || seal >= 1000003 || last[seal] == seed+1 {
				t.Fatalf("LotsSeal(%d, %d) returned %d, which is out of range, or as for a lesser secret", seed, secret, seal)
			}
			last[seal] = seed + 1
		}
	}
}

func TestLotsArgumentsAreNotChanged(t *testing.T) {
	for _, list := range append(allOrders(), invalidLots()...) {
		// The numbers in the spare capacity belong to the caller, too.
		spare := append(slices.Clone(list), 41, 42, 43)
		lots := spare[:len(list)]
		kept := []bool{true, false, true, false, true, true}
		some := slices.Clone(kept)
		impl.LotsValid(lots)
		for n := range 6 {
			impl.LotsFirst(lots, some[:n])
		}
		if !slices.Equal(spare, append(slices.Clone(list), 41, 42, 43)) || !slices.Equal(some, kept) {
			t.Fatalf("%.100v and %v have become %.100v and %v", list, kept, spare, some)
		}
	}
}

func TestLotsShareNoMemory(t *testing.T) {
	for n := 1; n <= 5; n++ {
		for seed := range factorial(n) {
			first, second := mustLots(t, n, seed), mustLots(t, n, seed)
			for i := range first[:cap(first)] {
				first[:cap(first)][i] = -7
			}
			if third := mustLots(t, n, seed); !slices.Equal(second, drawn(n, seed)) || !slices.Equal(third, second) {
				t.Fatalf("LotsOf(%d, %d) returned %v and %v", n, seed, second, third)
			}
		}
	}
}
