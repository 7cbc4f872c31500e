package tests

import (
	"math"
	"slices"
	"strings"
	"testing"

	"loop.example/tallyaudit/impl"
)

// badNumbers are never the number of ballots of a pile.
var badNumbers = []int{math.MinInt, math.MinInt32, -256, -99, -2, -1, 0, 100, 101, 198, 199, 256, math.MaxInt32, math.MaxInt - 1, math.MaxInt}

// badTexts are never the text of a pile.
var badTexts = []string{
	"f", "A", "`", "0", " ", "a ", " a", "a,b", "aa", "aba", "bcb", "abcdea", "abcdef", "abcdea ", "\x00", "a\x00", "\xff", "\u00e4", "abf",
	strings.Repeat("a", 1000), strings.Repeat("abcde", 1000),
}

// fewTexts are texts of ballots, in ascending order.
var fewTexts = []string{"", "a", "ab", "b", "ba", "bac"}

// ballotTexts returns the texts of all ballots, in ascending order.
func ballotTexts() []string {
	texts := []string{}
	for _, b := range ballotsOf(5) {
		texts = append(texts, lettersOf(b))
	}
	slices.Sort(texts)
	return texts
}

// piles returns a pile for each text, with some numbers in turn.
func piles(texts []string, numbers ...int) []impl.Pile {
	list := []impl.Pile{}
	for i, text := range texts {
		list = append(list, impl.Pile{Text: text, Many: numbers[i%len(numbers)]})
	}
	return list
}

// pilesOfFew returns all valid piles with texts of fewTexts and some numbers.
func pilesOfFew(numbers ...int) [][]impl.Pile {
	all := [][]impl.Pile{{}}
	for _, text := range fewTexts {
		for _, list := range all {
			for _, many := range numbers {
				all = append(all, append(slices.Clone(list), impl.Pile{Text: text, Many: many}))
			}
		}
	}
	return all
}

// manyPiles returns valid piles of all numbers of piles, with texts from all parts of those of all ballots.
func manyPiles() [][]impl.Pile {
	texts := ballotTexts()
	lists := [][]impl.Pile{nil}
	for length := 1; length <= 12; length++ {
		for step := 1; step <= 27; step += 5 {
			for start := 0; start+step*(length-1) < len(texts); start += 41 {
				some := []string{}
				for i := range length {
					some = append(some, texts[start+step*i])
				}
				lists = append(lists, piles(some, 1+(start+step)%49, 50, 1, 3), piles(some, 99), piles(some, 1, 99, 49))
			}
		}
	}
	return append(lists, pilesOfFew(1, 50)...)
}

// invalidPiles returns lists that are no valid piles.
func invalidPiles() [][]impl.Pile {
	texts := ballotTexts()
	lists := [][]impl.Pile{
		{{}}, {{}, {}},
		// The order is wrong, or a pile is there twice.
		piles([]string{"b", "a"}, 1), piles([]string{"b", "ab"}, 1), piles([]string{"ab", "a"}, 1), piles([]string{"a", ""}, 1), piles([]string{"abcde", "abce", "abcd"}, 1),
		piles([]string{"", ""}, 1), piles([]string{"a", "a"}, 1), piles([]string{"a", "a"}, 1, 2), piles([]string{"a", "b", "a"}, 1), piles([]string{"", "a", ""}, 1), piles([]string{"a", "c", "b"}, 1),
		piles([]string{"edcba", "edcba"}, 99), piles([]string{"a", "b", "c", "d", "e", "e"}, 5),
		// There are too many.
		piles(texts[:13], 1), piles(texts[100:113], 99), piles(texts[:14], 1), piles(texts, 1), piles(slices.Repeat([]string{"a"}, 13), 1), piles(slices.Repeat([]string{""}, 1000), 1),
		append(piles(texts[1:13], 1), impl.Pile{}), append([]impl.Pile{{}}, piles(texts[1:12], 1)...),
	}
	for _, text := range badTexts {
		lists = append(lists, piles([]string{text}, 1), piles([]string{"", text}, 1), piles([]string{text, "e"}, 2), piles([]string{"", text, "edcba"}, 3))
	}
	for _, many := range badNumbers {
		lists = append(lists, piles([]string{""}, many), piles([]string{"a"}, many), piles([]string{"a", "b"}, 1, many), piles([]string{"a", "b"}, many, 1), piles([]string{"", "a", "ab"}, 1, many, 99), piles(texts[:12], 5, 5, many))
	}
	return lists
}

// arePiles is the document's definition of valid piles, in other words.
func arePiles(list []impl.Pile) bool {
	for i, p := range list {
		if i == 12 || !isBallotText(p.Text) || p.Many <= 0 || p.Many > 99 {
			return false
		}
		for _, q := range list[:i] {
			if q.Text >= p.Text {
				return false
			}
		}
	}
	return true
}

// textsIn returns the text of each single ballot of valid piles.
func textsIn(list []impl.Pile) []string {
	texts := []string{}
	for _, p := range list {
		texts = append(texts, slices.Repeat([]string{p.Text}, p.Many)...)
	}
	return texts
}

// piled puts single ballots on piles, which need not be valid.
func piled(texts []string) []impl.Pile {
	texts = slices.Sorted(slices.Values(texts))
	list := []impl.Pile{}
	for i, text := range texts {
		if i == 0 || texts[i-1] != text {
			list = append(list, impl.Pile{Text: text})
		}
		list[len(list)-1].Many++
	}
	return list
}

// together is what the document says of PilesMerge, in other words.
func together(a []impl.Pile, b []impl.Pile) ([]impl.Pile, bool) {
	if !arePiles(a) || !arePiles(b) {
		return nil, false
	}
	list := piled(append(textsIn(a), textsIn(b)...))
	if !arePiles(list) {
		return nil, false
	}
	return list, true
}

// exchanged returns valid piles with two letters exchanged on each single ballot.
func exchanged(list []impl.Pile, x int, y int) []impl.Pile {
	swap := strings.NewReplacer(letters[x:x+1], letters[y:y+1], letters[y:y+1], letters[x:x+1])
	texts := textsIn(list)
	for i := range texts {
		texts[i] = swap.Replace(texts[i])
	}
	return piled(texts)
}

// checkPiles tells of piles that are not those that are due; nil piles, with false, are due where a function must fail.
func checkPiles(t *testing.T, what string, got []impl.Pile, ok bool, want []impl.Pile, fine bool) {
	t.Helper()
	if ok != fine || !slices.Equal(got, want) {
		t.Fatalf("%s: %.400v, %v, not %v, %v", what, got, ok, want, fine)
	}
}

func TestPileMaxAndVoteMax(t *testing.T) {
	if impl.PileMax != 12 {
		t.Errorf("PileMax is %d", impl.PileMax)
	}
	if impl.VoteMax != 99 {
		t.Errorf("VoteMax is %d", impl.VoteMax)
	}
}

func TestPilesValidExamples(t *testing.T) {
	texts := ballotTexts()
	for _, e := range []struct {
		list []impl.Pile
		want bool
	}{
		{nil, true}, {[]impl.Pile{}, true},
		{piles([]string{"a"}, 1), true}, {piles([]string{"a"}, 99), true}, {piles([]string{"a"}, 0), false}, {piles([]string{"a"}, 100), false}, {piles([]string{"a"}, -1), false},
		{piles([]string{""}, 1), true}, {piles([]string{""}, 99), true}, {piles([]string{""}, 0), false}, {piles([]string{""}, 100), false},
		{piles([]string{"", "a"}, 1), true}, {piles([]string{"a", ""}, 1), false}, {piles([]string{"", ""}, 1), false},
		{piles([]string{"a", "b"}, 2, 1), true}, {piles([]string{"a", "b"}, 1, 2), true}, {piles([]string{"b", "a"}, 1, 2), false}, {piles([]string{"b", "b"}, 1, 2), false},
		// Bytes decide on the order, not the length.
		{piles([]string{"ab", "b"}, 1), true}, {piles([]string{"b", "ab"}, 1), false}, {piles([]string{"a", "ab"}, 1), true}, {piles([]string{"ab", "a"}, 1), false},
		{piles([]string{"abcde", "abdce", "b", "edcba"}, 1), true}, {piles([]string{"", "edcba"}, 1), true},
		{piles([]string{"aa"}, 1), false}, {piles([]string{"f"}, 1), false}, {piles([]string{"A"}, 1), false}, {piles([]string{"a", "b", "f"}, 1), false},
		{piles(texts[:12], 99), true}, {piles(texts[:13], 99), false}, {piles(texts[314:], 1), true}, {piles(texts[313:], 1), false},
	} {
		if got := impl.PilesValid(e.list); got != e.want {
			t.Errorf("PilesValid(%v) returned %v", e.list, got)
		}
	}
}

func TestPilesValidOfSinglePiles(t *testing.T) {
	texts := append(textsOf("abcdef`A", 3), append(ballotTexts(), badTexts...)...)
	for _, text := range texts {
		for _, many := range append([]int{1, 2, 50, 98, 99}, badNumbers...) {
			list := piles([]string{text}, many)
			if got := impl.PilesValid(list); got != arePiles(list) {
				t.Fatalf("PilesValid(%.100v) returned %v", list, got)
			}
		}
	}
}

func TestPilesValidOfAllPairsOfTexts(t *testing.T) {
	texts := ballotTexts()
	for _, first := range texts {
		for _, second := range texts {
			if impl.PilesValid(piles([]string{first, second}, 7, 3)) != (first < second) {
				t.Fatalf("PilesValid is wrong for %q and %q", first, second)
			}
		}
	}
}

func TestPilesValidOfManyPiles(t *testing.T) {
	for _, list := range manyPiles() {
		if !arePiles(list) || !impl.PilesValid(list) {
			t.Fatalf("PilesValid(%v) is false", list)
		}
	}
	for _, list := range invalidPiles() {
		if arePiles(list) || impl.PilesValid(list) {
			t.Errorf("PilesValid(%.100v) is true", list)
		}
	}
}

func TestPilesAddExamples(t *testing.T) {
	texts := ballotTexts()
	for _, e := range []struct {
		list []impl.Pile
		text string
		many int
		want []impl.Pile
	}{
		{nil, "a", 1, piles([]string{"a"}, 1)},
		{nil, "", 1, piles([]string{""}, 1)},
		{nil, "edcba", 99, piles([]string{"edcba"}, 99)},
		{piles([]string{"b"}, 2), "ab", 3, piles([]string{"ab", "b"}, 3, 2)},
		{piles([]string{"b"}, 2), "ba", 3, piles([]string{"b", "ba"}, 2, 3)},
		{piles([]string{"b"}, 2), "b", 3, piles([]string{"b"}, 5)},
		{piles([]string{"a", "c"}, 1, 4), "b", 2, piles([]string{"a", "b", "c"}, 1, 2, 4)},
		{piles([]string{"a", "c"}, 1, 4), "c", 2, piles([]string{"a", "c"}, 1, 6)},
		{piles([]string{"a", "c"}, 1, 4), "", 2, piles([]string{"", "a", "c"}, 2, 1, 4)},
		{piles([]string{"", "a"}, 3, 4), "", 2, piles([]string{"", "a"}, 5, 4)},
		// A pile can become full, but not larger.
		{piles([]string{"a", "b"}, 98, 99), "a", 1, piles([]string{"a", "b"}, 99)},
		{piles([]string{"a", "b"}, 98, 99), "a", 2, nil},
		{piles([]string{"a", "b"}, 98, 99), "b", 1, nil},
		{piles([]string{"a", "b"}, 98, 99), "b", 99, nil},
		{piles([]string{"a", "b"}, 1, 1), "a", 98, piles([]string{"a", "b"}, 99, 1)},
		{piles([]string{"a", "b"}, 1, 1), "a", 99, nil},
		{piles([]string{""}, 98), "", 1, piles([]string{""}, 99)},
		{piles([]string{""}, 99), "", 1, nil},
		// The last pile that there can be is added, but no further one.
		{piles(texts[1:12], 1), "", 1, piles(texts[:12], 1)},
		{piles(texts[1:13], 1), "", 1, nil},
		{piles(texts[:12], 1), texts[12], 1, nil},
		{piles(texts[:12], 1), texts[11], 98, append(piles(texts[:11], 1), impl.Pile{Text: texts[11], Many: 99})},
		{piles(texts[:12], 1), texts[0], 1, append(piles(texts[:1], 2), piles(texts[1:12], 1)...)},
		{piles([]string{"a"}, 1), "a", 0, nil},
		{piles([]string{"a"}, 5), "a", -1, nil},
		{piles([]string{"a"}, 1), "b", 0, nil},
		{piles([]string{"a"}, 1), "aa", 1, nil},
		{piles([]string{"b", "a"}, 1), "a", 1, nil},
		{piles([]string{"a", "a"}, 1), "a", 1, nil},
		{piles([]string{"a", "b"}, 1, 0), "b", 1, nil},
		{piles(texts[:13], 1), texts[0], 1, nil},
	} {
		got, ok := impl.PilesAdd(e.list, e.text, e.many)
		if ok != (e.want != nil) || !slices.Equal(got, e.want) {
			t.Errorf("PilesAdd(%v, %q, %d) returned %v, %v", e.list, e.text, e.many, got, ok)
		}
	}
}

func TestPilesAddOfInvalidArguments(t *testing.T) {
	for _, list := range invalidPiles() {
		for _, text := range []string{"", "a", "b", "edcba", "f"} {
			for _, many := range []int{-1, 0, 1, 99} {
				got, ok := impl.PilesAdd(list, text, many)
				checkPiles(t, "PilesAdd to invalid piles", got, ok, nil, false)
			}
		}
	}
	for _, list := range [][]impl.Pile{nil, piles([]string{""}, 2), piles([]string{"a", "b"}, 50), piles([]string{"a"}, 99), piles(ballotTexts()[:12], 1)} {
		for _, text := range badTexts {
			got, ok := impl.PilesAdd(list, text, 1)
			checkPiles(t, "PilesAdd of no ballot's text", got, ok, nil, false)
		}
		for _, text := range []string{"", "a", "b", "e"} {
			for _, many := range badNumbers {
				got, ok := impl.PilesAdd(list, text, many)
				checkPiles(t, "PilesAdd of a number out of range", got, ok, nil, false)
			}
		}
	}
}

func TestPromise15AddedBallots(t *testing.T) {
	succeeded, failed := 0, 0
	for _, list := range append(manyPiles(), invalidPiles()...) {
		for _, text := range []string{"", "a", "ba", "cde", "edcba", "f"} {
			for _, many := range []int{0, 1, 49, 50, 99, 100} {
				got, ok := impl.PilesAdd(list, text, many)
				want, fine := together(list, []impl.Pile{{Text: text, Many: many}})
				checkPiles(t, "PilesAdd", got, ok, want, fine)
				if !ok {
					failed++
					continue
				}
				succeeded++
				if !impl.PilesValid(got) || impl.PilesTotal(got) != impl.PilesTotal(list)+many {
					t.Fatalf("PilesAdd(%v, %q, %d) returned %v", list, text, many, got)
				}
			}
		}
	}
	if succeeded == 0 || failed == 0 {
		t.Errorf("%d succeeded, and %d failed", succeeded, failed)
	}
}

func TestPromise16AddedInTwoParts(t *testing.T) {
	for _, list := range manyPiles() {
		for _, text := range []string{"", "a", "ab", "bac", "edcba"} {
			for _, many := range []int{2, 3, 49, 50, 99} {
				want, ok := impl.PilesAdd(list, text, many)
				if !ok {
					continue
				}
				for _, part := range []int{1, many / 2, many - 1} {
					got, fine := impl.PilesAdd(list, text, part)
					if !fine {
						t.Fatalf("PilesAdd(%v, %q, %d) failed, though %d can be added", list, text, part, many)
					}
					got, fine = impl.PilesAdd(got, text, many-part)
					checkPiles(t, "PilesAdd of two parts", got, fine, want, true)
				}
			}
		}
	}
}

func TestPilesMergeExamples(t *testing.T) {
	texts := ballotTexts()
	for _, e := range []struct {
		a, b []impl.Pile
		want []impl.Pile
	}{
		{nil, nil, []impl.Pile{}},
		{nil, piles([]string{"", "b"}, 1, 2), piles([]string{"", "b"}, 1, 2)},
		{piles([]string{"a", "c"}, 1, 2), piles([]string{"b", "c"}, 3, 4), piles([]string{"a", "b", "c"}, 1, 3, 6)},
		{piles([]string{"", "b"}, 1, 2), piles([]string{"", "ab"}, 3, 4), piles([]string{"", "ab", "b"}, 4, 4, 2)},
		{piles([]string{"a", "b"}, 50, 49), piles([]string{"a", "b"}, 49, 50), piles([]string{"a", "b"}, 99)},
		{piles([]string{"a", "b"}, 50, 49), piles([]string{"a", "b"}, 49, 51), nil},
		{piles([]string{"a", "b"}, 50, 49), piles([]string{"a", "b"}, 50), nil},
		{piles([]string{""}, 50), piles([]string{""}, 50), nil},
		{piles([]string{"a"}, 99), piles([]string{"a"}, 99), nil},
		{piles([]string{"a"}, 99), piles([]string{"b"}, 99), piles([]string{"a", "b"}, 99)},
		{piles(texts[:6], 1), piles(texts[6:12], 1), piles(texts[:12], 1)},
		{piles(texts[:6], 1), piles(texts[6:13], 1), nil},
		{piles(texts[:7], 1), piles(texts[6:12], 1), append(append(piles(texts[:6], 1), piles(texts[6:7], 2)...), piles(texts[7:12], 1)...)},
		{piles(texts[:12], 1), piles(texts[:12], 98), piles(texts[:12], 99)},
		{piles(texts[:12], 1), piles(texts[12:13], 1), nil},
		{piles(texts[:12], 1), piles(texts[12:24], 1), nil},
		{piles([]string{"a"}, 0), nil, nil},
		{piles([]string{"a"}, 100), nil, nil},
		{piles([]string{"a"}, -1), piles([]string{"a"}, 2), nil},
		{piles([]string{"a"}, 0), piles([]string{"a"}, 2), nil},
		{piles([]string{"b", "a"}, 1), nil, nil},
		{piles([]string{"a", "a"}, 1), piles([]string{"b"}, 1), nil},
		{piles(texts[:13], 1), nil, nil},
		{piles([]string{"f"}, 1), piles([]string{"f"}, 1), nil},
	} {
		for _, lists := range [][][]impl.Pile{{e.a, e.b}, {e.b, e.a}} {
			got, ok := impl.PilesMerge(lists[0], lists[1])
			if ok != (e.want != nil) || !slices.Equal(got, e.want) {
				t.Errorf("PilesMerge(%v, %v) returned %v, %v", lists[0], lists[1], got, ok)
			}
		}
	}
}

func TestPilesMergeOfInvalidArguments(t *testing.T) {
	for _, bad := range invalidPiles() {
		for _, list := range [][]impl.Pile{nil, piles([]string{""}, 1), piles([]string{"a", "b"}, 1), piles([]string{"a", "b"}, 99), piles(ballotTexts()[:12], 1), bad} {
			got, ok := impl.PilesMerge(bad, list)
			checkPiles(t, "PilesMerge of invalid piles", got, ok, nil, false)
			got, ok = impl.PilesMerge(list, bad)
			checkPiles(t, "PilesMerge with invalid piles", got, ok, nil, false)
		}
	}
}

// pairsOfPiles returns pairs of valid piles, some of which are too many or too large together.
func pairsOfPiles() [][2][]impl.Pile {
	pairs := [][2][]impl.Pile{}
	few, others, lists := pilesOfFew(1, 50), pilesOfFew(49, 99), manyPiles()
	for i, a := range few {
		for k := i % 31; k < len(others); k += 31 {
			pairs = append(pairs, [2][]impl.Pile{a, others[k]})
		}
	}
	for i, a := range lists {
		for k := i % 211; k < len(lists); k += 211 {
			pairs = append(pairs, [2][]impl.Pile{a, lists[k]})
		}
	}
	return pairs
}

func TestPromise17MergedPiles(t *testing.T) {
	succeeded, failed := 0, 0
	for _, pair := range pairsOfPiles() {
		a, b := pair[0], pair[1]
		got, ok := impl.PilesMerge(a, b)
		want, fine := together(a, b)
		checkPiles(t, "PilesMerge", got, ok, want, fine)
		turned, done := impl.PilesMerge(b, a)
		checkPiles(t, "PilesMerge with both exchanged", turned, done, got, ok)
		if !ok {
			failed++
			continue
		}
		succeeded++
		if !impl.PilesValid(got) || impl.PilesTotal(got) != impl.PilesTotal(a)+impl.PilesTotal(b) {
			t.Fatalf("PilesMerge(%v, %v) returned %v", a, b, got)
		}
	}
	if succeeded < 1000 || failed < 1000 {
		t.Errorf("%d succeeded, and %d failed", succeeded, failed)
	}
}

func TestPromise18MergedInTwoParts(t *testing.T) {
	for _, pair := range pairsOfPiles() {
		a, b := pair[0], pair[1]
		want, ok := impl.PilesMerge(a, b)
		if !ok {
			continue
		}
		for k := range len(b) + 1 {
			first, fine := impl.PilesMerge(a, b[:k])
			if !fine {
				t.Fatalf("PilesMerge(%v, %v) failed", a, b[:k])
			}
			got, fine := impl.PilesMerge(first, b[k:])
			checkPiles(t, "PilesMerge of two parts", got, fine, want, true)
		}
	}
}

func TestPromise19MergedIsAddedPileByPile(t *testing.T) {
	for _, pair := range pairsOfPiles() {
		a, b := pair[0], pair[1]
		want, ok := impl.PilesMerge(a, b)
		if !ok {
			continue
		}
		got := a
		for _, p := range b {
			fine := false
			if got, fine = impl.PilesAdd(got, p.Text, p.Many); !fine {
				t.Fatalf("PilesAdd of %v failed for %v and %v", p, a, b)
			}
		}
		checkPiles(t, "PilesAdd of all piles", got, true, want, true)
	}
}

func TestPilesTurnExamples(t *testing.T) {
	for _, e := range []struct {
		list []impl.Pile
		x, y int
		want []impl.Pile
	}{
		{nil, 0, 1, []impl.Pile{}},
		{nil, 4, 4, []impl.Pile{}},
		{piles([]string{""}, 7), 0, 1, piles([]string{""}, 7)},
		{piles([]string{"a"}, 7), 0, 1, piles([]string{"b"}, 7)},
		{piles([]string{"b"}, 7), 0, 1, piles([]string{"a"}, 7)},
		{piles([]string{"a"}, 7), 0, 4, piles([]string{"e"}, 7)},
		{piles([]string{"a"}, 7), 4, 0, piles([]string{"e"}, 7)},
		{piles([]string{"ab"}, 7), 0, 1, piles([]string{"ba"}, 7)},
		{piles([]string{"cab"}, 7), 0, 2, piles([]string{"acb"}, 7)},
		{piles([]string{"abcde"}, 7), 3, 1, piles([]string{"adcbe"}, 7)},
		// The order of the piles changes.
		{piles([]string{"a", "b"}, 1, 2), 0, 1, piles([]string{"a", "b"}, 2, 1)},
		{piles([]string{"ab", "b"}, 3, 4), 0, 1, piles([]string{"a", "ba"}, 4, 3)},
		{piles([]string{"", "a", "b", "c"}, 1, 2, 3, 4), 0, 2, piles([]string{"", "a", "b", "c"}, 1, 4, 3, 2)},
		{piles([]string{"a", "ab", "abc", "ac"}, 1, 2, 3, 4), 1, 2, piles([]string{"a", "ab", "ac", "acb"}, 1, 4, 2, 3)},
		// Nothing changes.
		{piles([]string{"a", "b"}, 1, 2), 0, 0, piles([]string{"a", "b"}, 1, 2)},
		{piles([]string{"ab", "b"}, 1, 2), 1, 1, piles([]string{"ab", "b"}, 1, 2)},
		{piles([]string{"ab", "b"}, 1, 2), 3, 4, piles([]string{"ab", "b"}, 1, 2)},
		{piles([]string{"ab", "b"}, 1, 2), 4, 2, piles([]string{"ab", "b"}, 1, 2)},
		// One of both is named nowhere.
		{piles([]string{"ab", "b"}, 1, 2), 1, 4, piles([]string{"ae", "e"}, 1, 2)},
		{piles([]string{"ab", "b"}, 1, 2), 0, 2, piles([]string{"b", "cb"}, 2, 1)},
		{nil, -1, 0, nil}, {nil, 0, 5, nil}, {nil, 5, 5, nil}, {nil, -1, -1, nil},
		{piles([]string{"a"}, 1), 0, 5, nil}, {piles([]string{"a"}, 1), 5, 0, nil}, {piles([]string{"a"}, 1), 0, -1, nil}, {piles([]string{"a"}, 1), -1, 0, nil},
		{piles([]string{"a"}, 0), 0, 1, nil}, {piles([]string{"b", "a"}, 1), 0, 1, nil}, {piles([]string{"a", "a"}, 1), 0, 1, nil}, {piles([]string{"f"}, 1), 0, 1, nil}, {piles([]string{"f"}, 1), 5, 0, nil},
	} {
		got, ok := impl.PilesTurn(e.list, e.x, e.y)
		if ok != (e.want != nil) || !slices.Equal(got, e.want) {
			t.Errorf("PilesTurn(%v, %d, %d) returned %v, %v", e.list, e.x, e.y, got, ok)
		}
	}
}

func TestPilesTurnOfInvalidArguments(t *testing.T) {
	for _, list := range invalidPiles() {
		for _, x := range anyNumbers() {
			for _, y := range []int{-1, 0, 1, 4, 5} {
				got, ok := impl.PilesTurn(list, x, y)
				checkPiles(t, "PilesTurn of invalid piles", got, ok, nil, false)
			}
		}
	}
	for _, list := range [][]impl.Pile{nil, piles([]string{""}, 1), piles([]string{"a", "b"}, 1, 2), piles(ballotTexts()[:12], 99)} {
		for _, x := range append([]int{5}, oddNumbers...) {
			for _, y := range anyNumbers() {
				got, ok := impl.PilesTurn(list, x, y)
				checkPiles(t, "PilesTurn of no candidate", got, ok, nil, false)
				got, ok = impl.PilesTurn(list, y, x)
				checkPiles(t, "PilesTurn with no candidate", got, ok, nil, false)
			}
		}
	}
}

func TestPilesTurnOfAllTexts(t *testing.T) {
	texts := ballotTexts()
	for x := range 5 {
		for y := range 5 {
			for i := range texts {
				list := piles(texts[i:min(i+3, len(texts))], 3, 1, 2)
				got, ok := impl.PilesTurn(list, x, y)
				checkPiles(t, "PilesTurn", got, ok, exchanged(list, x, y), true)
			}
		}
	}
}

func TestPromise20TurnedTwice(t *testing.T) {
	for _, list := range manyPiles() {
		for x := range 5 {
			for y := range 5 {
				turned, ok := impl.PilesTurn(list, x, y)
				checkPiles(t, "PilesTurn", turned, ok, exchanged(list, x, y), true)
				if !impl.PilesValid(turned) || impl.PilesTotal(turned) != impl.PilesTotal(list) {
					t.Fatalf("PilesTurn(%v, %d, %d) returned %v", list, x, y, turned)
				}
				back, fine := impl.PilesTurn(turned, x, y)
				checkPiles(t, "PilesTurn of turned piles", back, fine, list, true)
			}
		}
	}
}

func TestPromise21WithoutOneAndWithOneTwice(t *testing.T) {
	for _, list := range manyPiles() {
		if !impl.PilesValid(list) {
			t.Fatalf("PilesValid(%v) is false", list)
		}
		for i, p := range list {
			fewer := slices.Delete(slices.Clone(list), i, i+1)
			if !impl.PilesValid(fewer) {
				t.Fatalf("PilesValid(%v) is false", fewer)
			}
			for k := range len(list) + 1 {
				for _, many := range []int{p.Many, 1} {
					twice := slices.Insert(slices.Clone(list), k, impl.Pile{Text: p.Text, Many: many})
					if impl.PilesValid(twice) {
						t.Fatalf("PilesValid(%v) is true", twice)
					}
				}
			}
		}
	}
}

func TestPromise22TotalIsTheSum(t *testing.T) {
	for _, list := range manyPiles() {
		if got := impl.PilesTotal(list); got != len(textsIn(list)) {
			t.Fatalf("PilesTotal(%v) returned %d", list, got)
		}
	}
	for _, list := range invalidPiles() {
		if got := impl.PilesTotal(list); got != -1 {
			t.Errorf("PilesTotal(%.100v) returned %d", list, got)
		}
	}
}

func TestPilesTotalExamples(t *testing.T) {
	texts := ballotTexts()
	for _, e := range []struct {
		list []impl.Pile
		want int
	}{
		{nil, 0}, {[]impl.Pile{}, 0},
		{piles([]string{""}, 1), 1}, {piles([]string{"a"}, 99), 99}, {piles([]string{"", "a", "ab"}, 1, 2, 4), 7},
		{piles(texts[:12], 99), 1188}, {piles(texts[:12], 1), 12}, {piles(texts[:13], 1), -1},
		{piles([]string{"a"}, 0), -1}, {piles([]string{"a"}, 100), -1}, {piles([]string{"a", "b"}, 5, -2), -1}, {piles([]string{"a", "b"}, math.MaxInt), -1},
		{piles([]string{"b", "a"}, 1), -1}, {piles([]string{"", ""}, 1), -1}, {piles([]string{"aa"}, 1), -1},
	} {
		if got := impl.PilesTotal(e.list); got != e.want {
			t.Errorf("PilesTotal(%v) returned %d", e.list, got)
		}
	}
}

func TestPilesOfBallotsThatNameNobody(t *testing.T) {
	list, ok := impl.PilesAdd(nil, "", 3)
	checkPiles(t, "PilesAdd", list, ok, piles([]string{""}, 3), true)
	list, ok = impl.PilesAdd(list, "b", 2)
	checkPiles(t, "PilesAdd", list, ok, piles([]string{"", "b"}, 3, 2), true)
	list, ok = impl.PilesAdd(list, "", 96)
	checkPiles(t, "PilesAdd", list, ok, piles([]string{"", "b"}, 99, 2), true)
	if !impl.PilesValid(list) || impl.PilesTotal(list) != 101 {
		t.Errorf("the total of %v is %d", list, impl.PilesTotal(list))
	}
	turned, ok := impl.PilesTurn(list, 0, 1)
	checkPiles(t, "PilesTurn", turned, ok, piles([]string{"", "a"}, 99, 2), true)
	merged, ok := impl.PilesMerge(piles([]string{"", "a"}, 4, 2), piles([]string{""}, 5))
	checkPiles(t, "PilesMerge", merged, ok, piles([]string{"", "a"}, 9, 2), true)
	for _, many := range badNumbers {
		got, fine := impl.PilesAdd(nil, "", many)
		checkPiles(t, "PilesAdd", got, fine, nil, false)
	}
}

// sparePiles are in the spare capacity of an argument, which belong to the caller, too.
var sparePiles = []impl.Pile{{Text: "x", Many: 41}, {Text: "y", Many: 42}, {Text: "z", Many: 43}}

// resultsOfPiles calls all functions of piles, and returns their results.
func resultsOfPiles(a []impl.Pile, b []impl.Pile) [][]impl.Pile {
	results := [][]impl.Pile{}
	for _, text := range []string{"", "a", "b", "edcba", "f"} {
		list, _ := impl.PilesAdd(a, text, 1)
		results = append(results, list)
	}
	for _, pair := range [][2][]impl.Pile{{a, b}, {b, a}, {a, a}, {a, nil}, {nil, a}, {a, a[:len(a)/2]}} {
		list, _ := impl.PilesMerge(pair[0], pair[1])
		results = append(results, list)
	}
	for _, pair := range [][2]int{{0, 1}, {0, 0}, {3, 1}, {0, 5}} {
		list, _ := impl.PilesTurn(a, pair[0], pair[1])
		results = append(results, list)
	}
	impl.PilesValid(a)
	impl.PilesTotal(a)
	return results
}

func TestPilesArgumentsAreNotChanged(t *testing.T) {
	for _, list := range append(manyPiles(), invalidPiles()...) {
		for _, other := range [][]impl.Pile{nil, piles(fewTexts, 1), piles([]string{"b", "a"}, 1)} {
			first := append(slices.Clone(list), sparePiles...)
			second := append(slices.Clone(other), sparePiles...)
			resultsOfPiles(first[:len(list)], second[:len(other)])
			if !slices.Equal(first, append(slices.Clone(list), sparePiles...)) || !slices.Equal(second, append(slices.Clone(other), sparePiles...)) {
				t.Fatalf("%.100v and %v have become %.100v and %v", list, other, first, second)
			}
		}
	}
}

func TestPilesResultsShareNoMemory(t *testing.T) {
	for _, list := range append(manyPiles(), invalidPiles()...) {
		first := append(slices.Clone(list), sparePiles...)
		second := append(piles(fewTexts, 1), sparePiles...)
		results := resultsOfPiles(first[:len(list)], second[:len(fewTexts)])
		kept := [][]impl.Pile{}
		for _, result := range results {
			kept = append(kept, slices.Clone(result))
		}
		for i, result := range results {
			if !slices.Equal(result, kept[i]) {
				t.Fatalf("a result for %.100v has become %v", list, result)
			}
			for k := range result[:cap(result)] {
				result[:cap(result)][k] = impl.Pile{Text: "?", Many: -7}
			}
		}
		if !slices.Equal(first, append(slices.Clone(list), sparePiles...)) || !slices.Equal(second, append(piles(fewTexts, 1), sparePiles...)) {
			t.Fatalf("%.100v has become %.100v", list, first)
		}
	}
}

func TestPilesAreTheSameEachTime(t *testing.T) {
	lists := manyPiles()
	for i := 0; i < len(lists); i += 29 {
		want := resultsOfPiles(lists[i], piles(fewTexts, 1))
		for range 20 {
			for k, got := range resultsOfPiles(lists[i], piles(fewTexts, 1)) {
				if !slices.Equal(got, want[k]) {
					t.Fatalf("a result for %v was %v, then %v", lists[i], want[k], got)
				}
			}
		}
	}
}
