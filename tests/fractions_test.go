package tests

import (
	"fmt"
	"math"
	"math/big"
	"slices"
	"strconv"
	"strings"
	"testing"

	"loop.example/tallyaudit/impl"
)

// badNumerators are never the numerator of a fraction.
var badNumerators = []int{math.MinInt, math.MinInt + 1, math.MinInt32, -20000000, -10000001, -10000000, 10000000, 10000001, 19999998, 20000000, math.MaxInt32, math.MaxInt - 1, math.MaxInt}

// badDenominators are never the denominator of a fraction.
var badDenominators = append([]int{-9999999, -9999998, -3, -2, -1, 0}, badNumerators...)

// edgeNumerators are numerators at the ends of what is in range, and where products with each other or with 2 are.
var edgeNumerators = []int{-9999999, -9999998, -9999997, -5000000, -4999999, -3333333, -3163, -3162, -3, -2, -1, 0, 1, 2, 3, 3162, 3163, 3333333, 4999999, 5000000, 9999997, 9999998, 9999999}

// edgeDenominators are denominators of the same kinds.
var edgeDenominators = []int{1, 2, 3, 3162, 3163, 3333333, 4999999, 5000000, 9999997, 9999998, 9999999}

// frac returns a fraction, which need not be valid.
func frac(num int, den int) impl.Frac {
	return impl.Frac{Num: num, Den: den}
}

// isFrac is the document's definition of valid fractions, in other words: without a common divisor, a fraction is what it is in lowest terms.
func isFrac(f impl.Frac) bool {
	if f.Num < -9999999 || f.Num > 9999999 || f.Den < 1 || f.Den > 9999999 {
		return false
	}
	r := big.NewRat(int64(f.Num), int64(f.Den))
	return r.Num().Int64() == int64(f.Num) && r.Denom().Int64() == int64(f.Den)
}

// ratio returns a fraction as an exact number of any size. Its denominator must not be 0.
func ratio(f impl.Frac) *big.Rat {
	return big.NewRat(int64(f.Num), int64(f.Den))
}

// fracOfRatio returns the valid fraction that is an exact number, and whether there is one.
func fracOfRatio(r *big.Rat) (impl.Frac, bool) {
	limit := big.NewInt(9999999)
	if r.Num().CmpAbs(limit) > 0 || r.Denom().Cmp(limit) > 0 {
		return impl.Frac{}, false
	}
	return frac(int(r.Num().Int64()), int(r.Denom().Int64())), true
}

// negated returns a fraction with the other sign.
func negated(f impl.Frac) impl.Frac {
	return frac(-f.Num, f.Den)
}

// smallFracs returns all valid fractions with numbers up to a limit.
func smallFracs(limit int) []impl.Frac {
	all := []impl.Frac{}
	for num := -limit; num <= limit; num++ {
		for den := 1; den <= limit; den++ {
			if f := frac(num, den); isFrac(f) {
				all = append(all, f)
			}
		}
	}
	return all
}

// manyFracs returns valid fractions of all kinds: small ones, those with numbers at the ends of the range, and some in between.
func manyFracs() []impl.Frac {
	all := smallFracs(10)
	add := func(num int, den int) {
		if f := frac(num, den); isFrac(f) && !slices.Contains(all, f) {
			all = append(all, f)
		}
	}
	for _, num := range edgeNumerators {
		for _, den := range edgeDenominators {
			add(num, den)
		}
	}
	for i := range 12 {
		add(1000003*i-5555555, 7919*i+6)
		add(104729*i-600000, 65537*i+1)
	}
	return all
}

// invalidFracs returns fractions that are not valid.
func invalidFracs() []impl.Frac {
	all := []impl.Frac{
		{}, frac(0, 2), frac(0, 3), frac(0, 9999998), frac(0, 9999999),
		frac(2, 2), frac(-2, 2), frac(2, 4), frac(-3, 9), frac(6, 4), frac(35, 49),
		frac(9999999, 9999999), frac(-9999999, 9999999), frac(9999998, 9999998), frac(-9999998, 2), frac(9999999, 3), frac(3, 9999999), frac(-4649, 9999999), frac(5000000, 9999998),
	}
	for _, den := range badDenominators {
		for _, num := range []int{-9999999, -2, -1, 0, 1, 2, 9999999} {
			all = append(all, frac(num, den))
		}
	}
	for _, num := range badNumerators {
		for _, den := range append([]int{1, 2, 3, 9999998, 9999999}, badDenominators...) {
			all = append(all, frac(num, den))
		}
	}
	return all
}

// checkFrac checks a result against the exact number that is due, if there is a valid fraction for it.
func checkFrac(t *testing.T, what string, got impl.Frac, ok bool, due *big.Rat) {
	t.Helper()
	want, fine := fracOfRatio(due)
	if got != want || ok != fine {
		t.Fatalf("%s returned %v, %v, not %v, %v", what, got, ok, want, fine)
	}
}

// sumOf returns the sum of two fractions, which must be the one that is due.
func sumOf(t *testing.T, a impl.Frac, b impl.Frac) (impl.Frac, bool) {
	t.Helper()
	got, ok := impl.FracAdd(a, b)
	checkFrac(t, fmt.Sprintf("FracAdd(%v, %v)", a, b), got, ok, new(big.Rat).Add(ratio(a), ratio(b)))
	return got, ok
}

// productOf returns the product of two fractions, which must be the one that is due.
func productOf(t *testing.T, a impl.Frac, b impl.Frac) (impl.Frac, bool) {
	t.Helper()
	got, ok := impl.FracTimes(a, b)
	checkFrac(t, fmt.Sprintf("FracTimes(%v, %v)", a, b), got, ok, new(big.Rat).Mul(ratio(a), ratio(b)))
	return got, ok
}

func TestFracMax(t *testing.T) {
	if impl.FracMax != 9999999 {
		t.Errorf("FracMax is %d", impl.FracMax)
	}
}

func TestFracValidExamples(t *testing.T) {
	for _, e := range []struct {
		num, den int
		want     bool
	}{
		// 0 has the denominator 1.
		{0, 1, true}, {0, 2, false}, {0, 0, false}, {0, -1, false}, {0, 9999999, false}, {0, 10000000, false},
		// Whole numbers.
		{1, 1, true}, {-1, 1, true}, {7, 1, true}, {9999999, 1, true}, {-9999999, 1, true}, {10000000, 1, false}, {-10000000, 1, false},
		{1, 2, true}, {-1, 2, true}, {3, 2, true}, {2, 4, false}, {-2, 4, false}, {4, 2, false}, {6, 9, false}, {6, 35, true}, {35, 49, false},
		{1, 9999999, true}, {-1, 9999999, true}, {1, 10000000, false}, {3, 10000000, false},
		{9999998, 9999999, true}, {-9999998, 9999999, true}, {9999999, 9999998, true}, {-9999999, 9999998, true}, {9999999, 9999999, false}, {-9999999, 9999999, false},
		{9999999, 2, true}, {10000001, 2, false}, {-10000001, 2, false}, {2, 9999999, true}, {3, 9999999, false}, {239, 9999999, false}, {4649, 9999999, false},
		// The sign is that of the numerator.
		{1, -1, false}, {-1, -1, false}, {1, -2, false}, {1, 0, false}, {-1, 0, false}, {5, 0, false},
		{math.MinInt, 1, false}, {math.MaxInt, 1, false}, {1, math.MinInt, false}, {1, math.MaxInt, false}, {math.MinInt, -1, false}, {math.MinInt, math.MinInt, false}, {math.MinInt, 0, false},
	} {
		if got := impl.FracValid(frac(e.num, e.den)); got != e.want {
			t.Errorf("FracValid of %d and %d returned %v", e.num, e.den, got)
		}
	}
}

// haveDivisor tells whether two small numbers have a common divisor but 1.
func haveDivisor(num int, den int) bool {
	for d := 2; d <= 60; d++ {
		if num%d == 0 && den%d == 0 {
			return true
		}
	}
	return false
}

func TestFracValidOfAllSmallNumbers(t *testing.T) {
	for num := -60; num <= 60; num++ {
		for den := -60; den <= 60; den++ {
			want := den > 0 && !haveDivisor(num, den)
			if got := impl.FracValid(frac(num, den)); got != want {
				t.Errorf("FracValid of %d and %d returned %v", num, den, got)
			}
		}
	}
}

func TestFracValidOfAllKinds(t *testing.T) {
	for _, f := range manyFracs() {
		if !impl.FracValid(f) {
			t.Errorf("FracValid(%v) is false", f)
		}
	}
	for _, f := range invalidFracs() {
		if isFrac(f) || impl.FracValid(f) {
			t.Errorf("FracValid(%v) is true", f)
		}
	}
	for _, num := range append(slices.Clone(edgeNumerators), badNumerators...) {
		for _, den := range append(slices.Clone(edgeDenominators), badDenominators...) {
			f := frac(num, den)
			if got := impl.FracValid(f); got != isFrac(f) {
				t.Errorf("FracValid(%v) returned %v", f, got)
			}
		}
	}
}

func TestFracOfExamples(t *testing.T) {
	for _, e := range []struct {
		num, den int
		want     impl.Frac
	}{
		{0, 1, frac(0, 1)}, {0, 2, frac(0, 1)}, {0, 9999999, frac(0, 1)},
		{1, 1, frac(1, 1)}, {-1, 1, frac(-1, 1)}, {12, 4, frac(3, 1)}, {-12, 4, frac(-3, 1)},
		{6, 8, frac(3, 4)}, {-6, 8, frac(-3, 4)}, {8, 6, frac(4, 3)}, {-8, 6, frac(-4, 3)}, {5, 7, frac(5, 7)},
		{9999999, 1, frac(9999999, 1)}, {-9999999, 1, frac(-9999999, 1)},
		{1, 9999999, frac(1, 9999999)}, {-1, 9999999, frac(-1, 9999999)},
		{9999999, 9999999, frac(1, 1)}, {-9999999, 9999999, frac(-1, 1)},
		{9999999, 9999998, frac(9999999, 9999998)}, {-9999998, 9999999, frac(-9999998, 9999999)},
		{9999999, 3, frac(3333333, 1)}, {-3, 9999999, frac(-1, 3333333)}, {4649, 9999999, frac(1, 2151)}, {9999998, 2, frac(4999999, 1)},
	} {
		if got, ok := impl.FracOf(e.num, e.den); !ok || got != e.want {
			t.Errorf("FracOf(%d, %d) returned %v, %v, not %v", e.num, e.den, got, ok, e.want)
		}
	}
}

func TestFracOfOfInvalidArguments(t *testing.T) {
	check := func(num int, den int) {
		if got, ok := impl.FracOf(num, den); ok || got != (impl.Frac{}) {
			t.Errorf("FracOf(%d, %d) returned %v, %v", num, den, got, ok)
		}
	}
	// The fractions of some of these would be valid, but the numbers are not in range.
	check(10000000, 2)
	check(-10000000, 10)
	check(2, 10000000)
	check(0, 10000000)
	check(10000000, 10000000)
	for _, num := range append(slices.Clone(edgeNumerators), badNumerators...) {
		for _, den := range badDenominators {
			check(num, den)
		}
	}
	for _, num := range badNumerators {
		for _, den := range edgeDenominators {
			check(num, den)
		}
	}
}

// checkFracOf checks promise 29 for two numbers that are in range.
func checkFracOf(t *testing.T, num int, den int) {
	t.Helper()
	f, ok := impl.FracOf(num, den)
	if !ok || !impl.FracValid(f) || !isFrac(f) {
		t.Fatalf("FracOf(%d, %d) returned %v, %v", num, den, f, ok)
	}
	if int64(f.Num)*int64(den) != int64(num)*int64(f.Den) {
		t.Fatalf("FracOf(%d, %d) returned %v, with another product across", num, den, f)
	}
	thrice, fine := impl.FracOf(3*num, 3*den)
	if inRange := max(num, -num, den) <= 3333333; fine != inRange || inRange && thrice != f {
		t.Fatalf("FracOf(%d, %d) returned %v, %v, and %v without the factor 3", 3*num, 3*den, thrice, fine, f)
	}
}

func TestPromise29FracOfIsValidAndEqual(t *testing.T) {
	for num := -70; num <= 70; num++ {
		for den := 1; den <= 70; den++ {
			checkFracOf(t, num, den)
		}
	}
	for _, num := range append([]int{-3333334, -3333332, -1111111, 1111111, 3333332, 3333334}, edgeNumerators...) {
		for _, den := range append([]int{9, 4649, 1111111, 3333332, 3333334}, edgeDenominators...) {
			checkFracOf(t, num, den)
		}
	}
	for i := range 5000 {
		checkFracOf(t, 3989*i-9970000, 1993*(5000-i))
	}
}

func TestFracOfOfValidFractionsIsTheSame(t *testing.T) {
	for _, f := range manyFracs() {
		if got, ok := impl.FracOf(f.Num, f.Den); !ok || got != f {
			t.Errorf("FracOf(%d, %d) returned %v, %v", f.Num, f.Den, got, ok)
		}
	}
}

// twoFracs are two fractions and a third one, which is their result. If it is the zero value, they have none.
type twoFracs struct {
	a, b, want impl.Frac
}

// checkExamples checks the results of a function, also for both arguments exchanged.
func checkExamples(t *testing.T, what string, made func(impl.Frac, impl.Frac) (impl.Frac, bool), examples []twoFracs) {
	t.Helper()
	for _, e := range examples {
		fine := e.want != impl.Frac{}
		if got, ok := made(e.a, e.b); ok != fine || got != e.want {
			t.Errorf("%s(%v, %v) returned %v, %v, not %v", what, e.a, e.b, got, ok, e.want)
		}
		if got, ok := made(e.b, e.a); ok != fine || got != e.want {
			t.Errorf("%s(%v, %v) returned %v, %v, not %v", what, e.b, e.a, got, ok, e.want)
		}
	}
}

func TestFracAddExamples(t *testing.T) {
	none := impl.Frac{}
	checkExamples(t, "FracAdd", impl.FracAdd, []twoFracs{
		// 0 changes nothing, and comes out with the denominator 1.
		{frac(0, 1), frac(0, 1), frac(0, 1)}, {frac(0, 1), frac(-3, 4), frac(-3, 4)}, {frac(3, 4), frac(-3, 4), frac(0, 1)},
		{frac(0, 1), frac(9999999, 1), frac(9999999, 1)}, {frac(0, 1), frac(-9999999, 9999998), frac(-9999999, 9999998)}, {frac(0, 1), frac(1, 9999999), frac(1, 9999999)},
		{frac(9999999, 1), frac(-9999999, 1), frac(0, 1)}, {frac(1, 9999999), frac(-1, 9999999), frac(0, 1)}, {frac(9999999, 9999998), frac(-9999999, 9999998), frac(0, 1)},
		{frac(1, 2), frac(1, 3), frac(5, 6)}, {frac(1, 2), frac(1, 2), frac(1, 1)}, {frac(3, 4), frac(-1, 4), frac(1, 2)}, {frac(-1, 2), frac(-1, 3), frac(-5, 6)}, {frac(1, 6), frac(1, 10), frac(4, 15)},
		{frac(2, 1), frac(3, 1), frac(5, 1)}, {frac(2, 1), frac(-3, 1), frac(-1, 1)}, {frac(2, 1), frac(1, 3), frac(7, 3)},
		// The numerator is just inside and just outside of the range.
		{frac(9999998, 1), frac(1, 1), frac(9999999, 1)}, {frac(9999999, 1), frac(1, 1), none}, {frac(-9999998, 1), frac(-1, 1), frac(-9999999, 1)}, {frac(-9999999, 1), frac(-1, 1), none},
		{frac(4999999, 1), frac(1, 2), frac(9999999, 2)}, {frac(5000000, 1), frac(1, 2), none}, {frac(-4999999, 1), frac(-1, 2), frac(-9999999, 2)},
		{frac(-5000000, 1), frac(-1, 2), none}, {frac(5000000, 1), frac(-1, 2), frac(9999999, 2)},
		{frac(1, 1), frac(-1, 9999999), frac(9999998, 9999999)}, {frac(1, 1), frac(1, 9999998), frac(9999999, 9999998)}, {frac(1, 1), frac(1, 9999999), none}, {frac(-1, 1), frac(-1, 9999999), none},
		// The denominator is just inside and just outside of the range.
		{frac(1, 3161), frac(1, 3162), frac(6323, 9995082)}, {frac(1, 3162), frac(1, 3163), none}, {frac(-1, 3162), frac(1, 3163), none},
		{frac(1, 2), frac(1, 4999999), frac(5000001, 9999998)}, {frac(1, 2), frac(1, 5000000), frac(2500001, 5000000)}, {frac(1, 3), frac(1, 5000000), none},
		{frac(1, 3), frac(-1, 3333332), frac(3333329, 9999996)}, {frac(1, 3), frac(-1, 3333334), none},
		{frac(1, 9999998), frac(1, 9999999), none}, {frac(1, 9999999), frac(1, 9999999), frac(2, 9999999)}, {frac(1, 9999999), frac(2, 9999999), frac(1, 3333333)},
		{frac(1, 9999998), frac(1, 9999998), frac(1, 4999999)},
		// Parts before they are reduced are out of the range, and the sum is in it.
		{frac(9999999, 2), frac(9999999, 2), frac(9999999, 1)}, {frac(-9999999, 2), frac(-9999999, 2), frac(-9999999, 1)},
		{frac(9999999, 2), frac(-9999997, 2), frac(1, 1)}, {frac(9999998, 9999999), frac(1, 9999999), frac(1, 1)},
		{frac(1, 4000), frac(1, 4000), frac(1, 2000)}, {frac(1, 6000), frac(1, 3000), frac(1, 2000)}, {frac(9999999, 9999998), frac(9999999, 9999998), frac(9999999, 4999999)},
		// So is the least common multiple of both denominators, which is 10040030 here.
		{frac(1, 10010), frac(7, 10030), frac(801, 1004003)},
	})
}

func TestFracTimesExamples(t *testing.T) {
	none := impl.Frac{}
	checkExamples(t, "FracTimes", impl.FracTimes, []twoFracs{
		{frac(0, 1), frac(0, 1), frac(0, 1)}, {frac(0, 1), frac(-3, 4), frac(0, 1)}, {frac(0, 1), frac(9999999, 1), frac(0, 1)},
		{frac(0, 1), frac(-9999999, 9999998), frac(0, 1)}, {frac(0, 1), frac(1, 9999999), frac(0, 1)},
		{frac(3, 4), frac(-1, 4), frac(-3, 16)}, {frac(2, 3), frac(3, 2), frac(1, 1)}, {frac(2, 3), frac(3, 4), frac(1, 2)}, {frac(-2, 3), frac(-3, 4), frac(1, 2)},
		{frac(2, 1), frac(3, 1), frac(6, 1)}, {frac(-2, 1), frac(1, 4), frac(-1, 2)}, {frac(-1, 1), frac(-1, 1), frac(1, 1)},
		{frac(1, 1), frac(9999999, 1), frac(9999999, 1)}, {frac(-1, 1), frac(9999999, 1), frac(-9999999, 1)}, {frac(-1, 1), frac(1, 9999999), frac(-1, 9999999)},
		{frac(1, 1), frac(-9999999, 9999998), frac(-9999999, 9999998)},
		// The numerator is just inside and just outside of the range.
		{frac(3333333, 1), frac(3, 1), frac(9999999, 1)}, {frac(3333334, 1), frac(3, 1), none}, {frac(3333333, 1), frac(-3, 1), frac(-9999999, 1)}, {frac(3333334, 1), frac(-3, 1), none},
		{frac(4999999, 1), frac(2, 1), frac(9999998, 1)}, {frac(5000000, 1), frac(2, 1), none}, {frac(5000000, 1), frac(-2, 1), none},
		{frac(-5000000, 1), frac(-2, 1), none}, {frac(3162, 1), frac(3162, 1), frac(9998244, 1)}, {frac(3162, 1), frac(3163, 1), none},
		{frac(9999999, 1), frac(9999999, 1), none}, {frac(-9999999, 1), frac(3, 2), none},
		// The denominator is just inside and just outside of the range.
		{frac(1, 3333333), frac(1, 3), frac(1, 9999999)}, {frac(1, 3333334), frac(1, 3), none}, {frac(1, 4999999), frac(-1, 2), frac(-1, 9999998)},
		{frac(1, 5000000), frac(-1, 2), none}, {frac(1, 3162), frac(1, 3162), frac(1, 9998244)}, {frac(1, 3162), frac(1, 3163), none},
		{frac(1, 9999999), frac(1, 9999999), none}, {frac(1, 9999999), frac(1, 2), none},
		{frac(9999999, 9999998), frac(9999999, 9999998), none}, {frac(9999999, 9999998), frac(-1, 9999997), none},
		// Parts before they are reduced are out of the range, and the product is in it.
		{frac(9999999, 1), frac(1, 9999999), frac(1, 1)}, {frac(9999999, 2), frac(2, 9999999), frac(1, 1)}, {frac(9999999, 9999998), frac(9999998, 9999999), frac(1, 1)},
		{frac(-9999999, 9999998), frac(9999998, 9999999), frac(-1, 1)},
		{frac(9999999, 1), frac(2, 3), frac(6666666, 1)}, {frac(-9999999, 1), frac(2, 9), frac(-2222222, 1)}, {frac(5000000, 1), frac(2, 3), none},
		{frac(2, 9999999), frac(3, 2), frac(1, 3333333)}, {frac(4000, 3), frac(3, 4000), frac(1, 1)}, {frac(9999998, 3), frac(3, 2), frac(4999999, 1)},
	})
}

func TestFracAddAndFracTimesOfInvalidFractions(t *testing.T) {
	others := append(smallFracs(3), frac(9999999, 1), frac(-9999999, 9999998), frac(1, 9999999))
	for _, f := range invalidFracs() {
		for _, other := range append(others, impl.Frac{}, frac(0, 2), frac(math.MinInt, -1), f) {
			for _, pair := range [][2]impl.Frac{{f, other}, {other, f}} {
				if got, ok := impl.FracAdd(pair[0], pair[1]); ok || got != (impl.Frac{}) {
					t.Errorf("FracAdd(%v, %v) returned %v, %v", pair[0], pair[1], got, ok)
				}
				if got, ok := impl.FracTimes(pair[0], pair[1]); ok || got != (impl.Frac{}) {
					t.Errorf("FracTimes(%v, %v) returned %v, %v", pair[0], pair[1], got, ok)
				}
				if impl.FracLess(pair[0], pair[1]) {
					t.Errorf("FracLess(%v, %v) is true", pair[0], pair[1])
				}
			}
		}
	}
}

// eachPair calls a function for all pairs of many fractions.
func eachPair(check func(a impl.Frac, b impl.Frac)) {
	all := manyFracs()
	for _, a := range all {
		for _, b := range all {
			check(a, b)
		}
	}
}

func TestPromise30SumLeadsBack(t *testing.T) {
	succeeded := 0
	eachPair(func(a impl.Frac, b impl.Frac) {
		sum, ok := sumOf(t, a, b)
		other, fine := impl.FracAdd(b, a)
		if other != sum || fine != ok {
			t.Fatalf("FracAdd of %v and %v is %v, %v, and exchanged %v, %v", a, b, sum, ok, other, fine)
		}
		if !ok {
			return
		}
		succeeded++
		if back, fine := impl.FracAdd(sum, negated(a)); !fine || back != b {
			t.Fatalf("FracAdd(%v, %v) returned %v, %v, and not %v again", sum, negated(a), back, fine, b)
		}
	})
	if succeeded < 10000 {
		t.Errorf("only %d sums are in range", succeeded)
	}
}

func TestPromise31SumIsThatOfProductsAcross(t *testing.T) {
	checked := 0
	eachPair(func(a impl.Frac, b impl.Frac) {
		num := int64(a.Num)*int64(b.Den) + int64(b.Num)*int64(a.Den)
		den := int64(a.Den) * int64(b.Den)
		if max(num, -num, den) > 9999999 {
			return
		}
		checked++
		want, fine := impl.FracOf(int(num), int(den))
		if sum, ok := impl.FracAdd(a, b); !ok || !fine || sum != want {
			t.Fatalf("FracAdd(%v, %v) returned %v, %v, and FracOf(%d, %d) %v, %v", a, b, sum, ok, num, den, want, fine)
		}
	})
	if checked < 10000 {
		t.Errorf("only %d sums have parts in range", checked)
	}
}

func TestPromise32ProductIsThatOfBothParts(t *testing.T) {
	checked := 0
	eachPair(func(a impl.Frac, b impl.Frac) {
		product, ok := productOf(t, a, b)
		other, fine := impl.FracTimes(b, a)
		if other != product || fine != ok {
			t.Fatalf("FracTimes of %v and %v is %v, %v, and exchanged %v, %v", a, b, product, ok, other, fine)
		}
		num, den := int64(a.Num)*int64(b.Num), int64(a.Den)*int64(b.Den)
		if max(num, -num, den) > 9999999 {
			return
		}
		checked++
		want, fine := impl.FracOf(int(num), int(den))
		if !ok || !fine || product != want {
			t.Fatalf("FracTimes(%v, %v) returned %v, %v, and FracOf(%d, %d) %v, %v", a, b, product, ok, num, den, want, fine)
		}
	})
	if checked < 10000 {
		t.Errorf("only %d products have parts in range", checked)
	}
}

func TestPromise33SumOfProductsIsTheProductOfTheSum(t *testing.T) {
	factor := frac(2, 3)
	checked := 0
	eachPair(func(a impl.Frac, b impl.Frac) {
		sum, ok := impl.FracAdd(a, b)
		x, okX := impl.FracTimes(a, factor)
		y, okY := impl.FracTimes(b, factor)
		if !ok || !okX || !okY {
			return
		}
		sumOfProducts, okSum := impl.FracAdd(x, y)
		productOfSum, okProduct := impl.FracTimes(sum, factor)
		if okSum != okProduct || sumOfProducts != productOfSum {
			t.Fatalf("two thirds of %v and %v are %v, %v together, and %v, %v of the sum", a, b, sumOfProducts, okSum, productOfSum, okProduct)
		}
		if okSum {
			checked++
		}
	})
	if checked < 10000 {
		t.Errorf("only %d products of sums are in range", checked)
	}
}

func TestFracLessExamples(t *testing.T) {
	for _, e := range []struct {
		a, b impl.Frac
		want bool
	}{
		{frac(-1, 4), frac(3, 4), true}, {frac(3, 4), frac(-1, 4), false}, {frac(1, 3), frac(1, 2), true}, {frac(1, 2), frac(1, 3), false},
		{frac(-1, 2), frac(-1, 3), true}, {frac(-1, 3), frac(-1, 2), false}, {frac(2, 3), frac(3, 4), true}, {frac(5, 1), frac(11, 2), true},
		{frac(-5, 1), frac(-11, 2), false},
		{frac(0, 1), frac(0, 1), false}, {frac(0, 1), frac(1, 9999999), true}, {frac(-1, 9999999), frac(0, 1), true}, {frac(0, 1), frac(-1, 9999999), false},
		{frac(1, 9999999), frac(0, 1), false}, {frac(3, 4), frac(3, 4), false},
		{frac(-9999999, 1), frac(9999999, 1), true}, {frac(9999999, 1), frac(-9999999, 1), false}, {frac(9999998, 1), frac(9999999, 1), true},
		{frac(9999999, 1), frac(9999999, 1), false}, {frac(-9999999, 1), frac(-9999998, 1), true},
		{frac(9999997, 9999998), frac(9999998, 9999999), true}, {frac(9999998, 9999999), frac(9999997, 9999998), false},
		{frac(-9999998, 9999999), frac(-9999997, 9999998), true}, {frac(1, 9999999), frac(1, 9999998), true},
		// One of both is invalid.
		{frac(0, 2), frac(1, 1), false}, {frac(-1, 1), frac(0, 2), false}, {impl.Frac{}, frac(1, 1), false}, {frac(-1, 1), impl.Frac{}, false},
		{frac(2, 4), frac(3, 4), false}, {frac(1, 4), frac(2, 4), false}, {frac(1, -1), frac(1, 1), false}, {frac(0, 1), frac(-1, -1), false},
		{frac(1, 1), frac(10000000, 1), false}, {frac(-10000000, 1), frac(1, 1), false}, {frac(1, 10000000), frac(1, 1), false},
		{frac(-1, 1), frac(-1, 10000000), false}, {impl.Frac{}, impl.Frac{}, false},
	} {
		if got := impl.FracLess(e.a, e.b); got != e.want {
			t.Errorf("FracLess(%v, %v) returned %v", e.a, e.b, got)
		}
	}
}

func TestPromise34LessGreaterOrEqual(t *testing.T) {
	eachPair(func(a impl.Frac, b impl.Frac) {
		less, greater := impl.FracLess(a, b), impl.FracLess(b, a)
		if order := ratio(a).Cmp(ratio(b)); less != (order < 0) || greater != (order > 0) || (a == b) != (order == 0) {
			t.Fatalf("FracLess(%v, %v) returned %v, and %v exchanged", a, b, less, greater)
		}
		holding := 0
		for _, holds := range []bool{less, greater, a == b} {
			if holds {
				holding++
			}
		}
		if holding != 1 {
			t.Fatalf("%d of less, greater and equal hold for %v and %v", holding, a, b)
		}
	})
}

func TestPromise35LessOfBothSums(t *testing.T) {
	half := frac(1, 2)
	checked := 0
	eachPair(func(a impl.Frac, b impl.Frac) {
		if !impl.FracLess(a, b) {
			return
		}
		x, okX := impl.FracAdd(a, half)
		y, okY := impl.FracAdd(b, half)
		if !okX || !okY {
			return
		}
		checked++
		if !impl.FracLess(x, y) {
			t.Fatalf("FracLess(%v, %v) is true, and not for %v and %v", a, b, x, y)
		}
	})
	if checked < 10000 {
		t.Errorf("only %d pairs have sums in range", checked)
	}
}

func TestFracTextExamples(t *testing.T) {
	for _, e := range []struct {
		num, den int
		want     string
	}{
		{0, 1, "0"}, {1, 1, "1"}, {-1, 1, "-1"}, {10, 1, "10"}, {-300, 1, "-300"}, {9999999, 1, "9999999"}, {-9999999, 1, "-9999999"},
		{1, 2, "1/2"}, {-1, 4, "-1/4"}, {3, 2, "3/2"}, {-100, 7, "-100/7"}, {1, 9999999, "1/9999999"}, {-1, 9999999, "-1/9999999"},
		{9999999, 9999998, "9999999/9999998"}, {-9999998, 9999999, "-9999998/9999999"}, {1, 1000000, "1/1000000"},
		// These are invalid.
		{0, 0, ""}, {0, 2, ""}, {0, -1, ""}, {2, 4, ""}, {4, 2, ""}, {1, 0, ""}, {1, -2, ""}, {-1, -2, ""}, {9999999, 9999999, ""}, {10000000, 1, ""},
		{-10000000, 1, ""}, {1, 10000000, ""}, {math.MinInt, 1, ""}, {math.MaxInt, math.MaxInt, ""},
	} {
		if got := impl.FracText(frac(e.num, e.den)); got != e.want {
			t.Errorf("FracText of %d and %d returned %q, not %q", e.num, e.den, got, e.want)
		}
	}
}

func TestPromise36TextHasASlashForParts(t *testing.T) {
	texts := map[string]impl.Frac{}
	for _, f := range append(manyFracs(), smallFracs(40)...) {
		text := impl.FracText(f)
		if text == "" || strings.Contains(text, "/") != (f.Den > 1) {
			t.Fatalf("FracText(%v) returned %q", f, text)
		}
		if other, known := texts[text]; known && other != f {
			t.Fatalf("FracText(%v) returned %q, as for %v", f, text, other)
		}
		texts[text] = f
		num, den, slash := strings.Cut(text, "/")
		if num != strconv.Itoa(f.Num) || slash && den != strconv.Itoa(f.Den) {
			t.Fatalf("FracText(%v) returned %q", f, text)
		}
	}
}

func TestFracTextOfInvalidFractions(t *testing.T) {
	for _, f := range invalidFracs() {
		if got := impl.FracText(f); got != "" {
			t.Errorf("FracText(%v) returned %q", f, got)
		}
	}
}

func TestPromise37TwiceBothNumbersAndNoDenominator(t *testing.T) {
	for _, f := range append(manyFracs(), smallFracs(40)...) {
		if !impl.FracValid(f) {
			t.Fatalf("FracValid(%v) is false", f)
		}
		if f.Num == 0 {
			continue
		}
		if twice := frac(2*f.Num, 2*f.Den); impl.FracValid(twice) {
			t.Errorf("FracValid(%v) is true", twice)
		}
		if none := frac(f.Num, 0); impl.FracValid(none) {
			t.Errorf("FracValid(%v) is true", none)
		}
	}
}

func TestFractionsThatAreZero(t *testing.T) {
	zero := frac(0, 1)
	for _, den := range append([]int{4, 5, 6, 7, 100}, edgeDenominators...) {
		if got, ok := impl.FracOf(0, den); !ok || got != zero {
			t.Errorf("FracOf(0, %d) returned %v, %v", den, got, ok)
		}
		if got := impl.FracValid(frac(0, den)); got != (den == 1) {
			t.Errorf("FracValid of 0 and %d returned %v", den, got)
		}
	}
	for _, f := range manyFracs() {
		if sum, ok := impl.FracAdd(f, zero); !ok || sum != f {
			t.Errorf("FracAdd(%v, 0) returned %v, %v", f, sum, ok)
		}
		if sum, ok := impl.FracAdd(f, negated(f)); !ok || sum != zero {
			t.Errorf("FracAdd(%v, %v) returned %v, %v", f, negated(f), sum, ok)
		}
		if product, ok := impl.FracTimes(f, zero); !ok || product != zero {
			t.Errorf("FracTimes(%v, 0) returned %v, %v", f, product, ok)
		}
		if impl.FracLess(f, zero) != (f.Num < 0) || impl.FracLess(zero, f) != (f.Num > 0) {
			t.Errorf("FracLess of %v and 0 is wrong", f)
		}
	}
}
