package tests

import (
	"math"
	"slices"
	"strings"
	"testing"

	"loop.example/tallyaudit/impl"
)

const letters = "abcde"

// oddNumbers are numbers that are never a candidate's, nor a valid number of candidates.
var oddNumbers = []int{math.MinInt, math.MinInt32, -256, -97, -6, -5, -2, -1, 6, 7, 97, 255, 256, math.MaxInt32, math.MaxInt - 1, math.MaxInt}

// ballotsOf returns all ballots that are valid for n candidates.
func ballotsOf(n int) [][]int {
	all := [][]int{{}}
	for i := 0; i < len(all); i++ {
		for c := range n {
			if !slices.Contains(all[i], c) {
				all = append(all, append(slices.Clone(all[i]), c))
			}
		}
	}
	return all
}

// listsOf returns all lists of numbers from low to high with at most length numbers.
func listsOf(low int, high int, length int) [][]int {
	all := [][]int{{}}
	for i := 0; i < len(all) && len(all[i]) < length; i++ {
		for c := low; c <= high; c++ {
			all = append(all, append(slices.Clone(all[i]), c))
		}
	}
	return all
}

// invalidLists returns lists that are no ballot for any number of candidates.
func invalidLists() [][]int {
	lists := [][]int{
		{0, 0}, {4, 4}, {0, 1, 0}, {1, 0, 0}, {2, 1, 3, 1}, {0, 1, 2, 3, 4, 0}, {0, 1, 2, 3, 4, 4},
		{5}, {0, 5}, {5, 0}, {0, 1, 2, 3, 4, 5}, {0, -1}, {-1, 0}, {0, 1, 2, 3, -1},
		slices.Repeat([]int{3}, 1000),
	}
	for _, x := range oddNumbers {
		lists = append(lists, []int{x}, []int{0, x}, []int{x, 4}, []int{1, x, 2})
	}
	return lists
}

// masksOf returns all lists of n bools.
func masksOf(n int) [][]bool {
	all := [][]bool{}
	for bits := range 1 << n {
		mask := make([]bool, n)
		for c := range n {
			mask[c] = bits>>c&1 == 1
		}
		all = append(all, mask)
	}
	return all
}

// isBallot is the document's definition of a valid ballot, in other words.
func isBallot(b []int, n int) bool {
	if n < 1 || n > 5 {
		return false
	}
	for i, c := range b {
		if c < 0 || c > n-1 || slices.Index(b, c) != i {
			return false
		}
	}
	return true
}

// lettersOf returns the letters of candidates.
func lettersOf(b []int) string {
	text := ""
	for _, c := range b {
		text += letters[c : c+1]
	}
	return text
}

func without(b []int, i int) []int {
	return slices.Delete(slices.Clone(b), i, i+1)
}

func with(b []int, i int, c int) []int {
	return slices.Insert(slices.Clone(b), i, c)
}

func TestChoiceMax(t *testing.T) {
	if impl.ChoiceMax != 5 {
		t.Errorf("ChoiceMax is %d", impl.ChoiceMax)
	}
	if n := len(ballotsOf(impl.ChoiceMax)); n != 326 {
		t.Fatalf("the tests know %d ballots, not 326", n)
	}
}

func TestBallotValidExamples(t *testing.T) {
	for _, e := range []struct {
		b    []int
		n    int
		want bool
	}{
		{nil, 1, true}, {[]int{}, 1, true}, {nil, 5, true}, {nil, 0, false}, {nil, 6, false}, {nil, -1, false},
		{[]int{0}, 1, true}, {[]int{1}, 1, false}, {[]int{1}, 2, true}, {[]int{-1}, 5, false},
		{[]int{4, 3, 2, 1, 0}, 5, true}, {[]int{4, 3, 2, 1, 0}, 4, false}, {[]int{4, 3, 2, 1, 0}, 6, false},
		{[]int{0, 0}, 5, false}, {[]int{2, 0, 2}, 3, false}, {[]int{5}, 5, false}, {[]int{5}, 6, false},
		{[]int{0, 1, 2, 3, 4, 0}, 5, false}, {[]int{0}, 0, false}, {[]int{0}, math.MaxInt, false}, {[]int{0}, math.MinInt, false},
	} {
		if got := impl.BallotValid(e.b, e.n); got != e.want {
			t.Errorf("BallotValid(%v, %d) returned %v", e.b, e.n, got)
		}
	}
}

func TestBallotValidOfAllSmallLists(t *testing.T) {
	for _, b := range append(listsOf(-2, 6, 5), invalidLists()...) {
		for n := -2; n <= 8; n++ {
			if got := impl.BallotValid(b, n); got != isBallot(b, n) {
				t.Fatalf("BallotValid(%v, %d) returned %v", b, n, got)
			}
		}
	}
}

func TestBallotValidOfNumbersOutOfRange(t *testing.T) {
	for _, n := range append(slices.Clone(oddNumbers), 0) {
		for _, b := range ballotsOf(5) {
			if impl.BallotValid(b, n) {
				t.Fatalf("%v is valid for %d candidates", b, n)
			}
		}
	}
	for _, b := range invalidLists() {
		for n := -2; n <= 8; n++ {
			if impl.BallotValid(b, n) {
				t.Errorf("%v is valid for %d candidates", b, n)
			}
		}
	}
}

func TestPromise1ParseLeadsBackToTheBallot(t *testing.T) {
	for _, b := range ballotsOf(5) {
		text := impl.BallotText(b)
		if text != lettersOf(b) {
			t.Errorf("BallotText(%v) returned %q", b, text)
		}
		if got, ok := impl.BallotParse(text); !ok || !slices.Equal(got, b) {
			t.Errorf("BallotParse(%q) returned %v, %v, not %v", text, got, ok, b)
		}
	}
}

func TestBallotTextExamples(t *testing.T) {
	for _, e := range []struct {
		b    []int
		text string
	}{
		{nil, ""}, {[]int{}, ""}, {[]int{0}, "a"}, {[]int{4}, "e"}, {[]int{2, 0, 1}, "cab"},
		{[]int{0, 1, 2, 3, 4}, "abcde"}, {[]int{4, 3, 2, 1, 0}, "edcba"},
	} {
		if got := impl.BallotText(e.b); got != e.text {
			t.Errorf("BallotText(%v) returned %q", e.b, got)
		}
		if got, ok := impl.BallotParse(e.text); !ok || !slices.Equal(got, e.b) {
			t.Errorf("BallotParse(%q) returned %v, %v", e.text, got, ok)
		}
	}
}

func TestBallotTextOfInvalidBallots(t *testing.T) {
	for _, b := range append(listsOf(-2, 6, 4), invalidLists()...) {
		want := ""
		if isBallot(b, 5) {
			want = lettersOf(b)
		}
		if got := impl.BallotText(b); got != want {
			t.Fatalf("BallotText(%v) returned %q", b, got)
		}
	}
}

func TestPromise2TextLeadsBackToTheText(t *testing.T) {
	count := 0
	for _, text := range textsOf("abcdef`A", 5) {
		b, ok := impl.BallotParse(text)
		if ok != isBallotText(text) {
			t.Fatalf("BallotParse(%q) returned %v, %v", text, b, ok)
		}
		if !ok {
			if len(b) != 0 {
				t.Fatalf("BallotParse(%q) failed, with %v", text, b)
			}
			continue
		}
		count++
		if got := impl.BallotText(b); got != text {
			t.Fatalf("BallotParse(%q) returned %v, with the text %q", text, b, got)
		}
		if !impl.BallotValid(b, impl.ChoiceMax) {
			t.Fatalf("BallotParse(%q) returned %v, which is invalid", text, b)
		}
	}
	if count != 326 {
		t.Errorf("%d texts are those of ballots, not 326", count)
	}
}

// textsOf returns all texts of some bytes with at most length bytes.
func textsOf(bytes string, length int) []string {
	all := []string{""}
	for i := 0; i < len(all) && len(all[i]) < length; i++ {
		for k := range len(bytes) {
			all = append(all, all[i]+bytes[k:k+1])
		}
	}
	return all
}

// isBallotText reports whether a text has only letters of candidates, each at most once.
func isBallotText(text string) bool {
	for i := range len(text) {
		letter := text[i : i+1]
		if !strings.Contains(letters, letter) || strings.Count(text, letter) > 1 {
			return false
		}
	}
	return true
}

func TestBallotParseOfOtherTexts(t *testing.T) {
	texts := []string{
		"f", "z", "A", "E", "0", "1", "`", " ", " a", "a ", "a b", "a,b", "a\n", "\n", "-", "[0 1]",
		"aa", "aba", "abcdea", "abcdef", "abcdeabcde", "abcde\x00", "\x00", "\x00a", "\xff", "a\xff", "\x80",
		"\u00e4", "a\u0301", "\u0430", "\u0161", "\uff41", "\U0001d41a", strings.Repeat("a", 100000), strings.Repeat("abcde", 1000),
	}
	for k := range 256 {
		if k >= 'a' && k <= 'e' {
			continue
		}
		other := string([]byte{byte(k)})
		texts = append(texts, other, "a"+other, other+"e", "b"+other+"c", "abcd"+other)
	}
	for _, text := range texts {
		if b, ok := impl.BallotParse(text); ok || len(b) != 0 {
			t.Errorf("BallotParse(%.20q) returned %v, %v", text, b, ok)
		}
	}
}

func TestBallotThatNamesNobody(t *testing.T) {
	for _, b := range [][]int{nil, {}} {
		if text := impl.BallotText(b); text != "" {
			t.Errorf("the text is %q", text)
		}
		for n := 1; n <= 5; n++ {
			if !impl.BallotValid(b, n) {
				t.Errorf("it is not valid for %d candidates", n)
			}
			if c := impl.BallotFirst(b, make([]bool, n)); c != -1 {
				t.Errorf("its first of %d candidates is %d", n, c)
			}
		}
		for x := -1; x <= 5; x++ {
			for y := -1; y <= 5; y++ {
				if impl.BallotPrefers(b, x, y) {
					t.Errorf("it prefers %d to %d", x, y)
				}
			}
		}
	}
	if b, ok := impl.BallotParse(""); !ok || len(b) != 0 {
		t.Errorf("BallotParse of its text returned %v, %v", b, ok)
	}
}

func TestPromise3FurtherLettersAreNoBallot(t *testing.T) {
	for _, ballot := range ballotsOf(5)[1:] {
		text := lettersOf(ballot)
		if _, ok := impl.BallotParse(text); !ok {
			t.Errorf("BallotParse(%q) failed", text)
		}
		for _, further := range []string{text + text[:1], text + "f"} {
			if b, ok := impl.BallotParse(further); ok || len(b) != 0 {
				t.Errorf("BallotParse(%q) returned %v, %v", further, b, ok)
			}
		}
	}
}

func TestPromise4FewerAndMoreCandidates(t *testing.T) {
	for n := 1; n <= 5; n++ {
		for _, b := range ballotsOf(n) {
			for more := n; more <= 5; more++ {
				if !impl.BallotValid(b, more) {
					t.Errorf("%v is not valid for %d candidates", b, more)
				}
			}
			for i, c := range b {
				if !impl.BallotValid(without(b, i), n) {
					t.Errorf("%v is not valid for %d candidates", without(b, i), n)
				}
				for k := range len(b) + 1 {
					if impl.BallotValid(with(b, k, c), n) {
						t.Errorf("%v is valid for %d candidates", with(b, k, c), n)
					}
				}
			}
		}
	}
}

func TestBallotFirstExamples(t *testing.T) {
	for _, e := range []struct {
		text string
		left []bool
		want int
	}{
		{"cab", []bool{false, false, false}, 2},
		{"cab", []bool{false, false, true}, 0},
		{"cab", []bool{true, false, true}, 1},
		{"cab", []bool{true, true, true}, -1},
		{"cab", []bool{false, false}, -1},
		{"cab", []bool{false, false, false, false, false}, 2},
		{"cab", []bool{true, true, true, false, false}, -1},
		{"cab", make([]bool, 6), -1},
		{"cab", nil, -1},
		{"", nil, -1},
		{"", []bool{false}, -1},
		{"a", []bool{false}, 0},
		{"a", []bool{true}, -1},
		{"b", []bool{false}, -1},
		{"e", make([]bool, 5), 4},
	} {
		b, ok := impl.BallotParse(e.text)
		if got := impl.BallotFirst(b, e.left); !ok || got != e.want {
			t.Errorf("BallotFirst of %q with %v returned %d", e.text, e.left, got)
		}
	}
}

func TestPromise5FirstWhoHasNotLeft(t *testing.T) {
	for n := 1; n <= 5; n++ {
		for _, left := range masksOf(n) {
			for _, b := range ballotsOf(n) {
				first := impl.BallotFirst(b, left)
				ahead := slices.Index(b, first)
				if first == -1 {
					ahead = len(b)
				} else if ahead == -1 || left[first] {
					t.Fatalf("BallotFirst(%v, %v) returned %d", b, left, first)
				}
				for _, c := range b[:ahead] {
					if !left[c] {
						t.Fatalf("BallotFirst(%v, %v) returned %d, behind %d", b, left, first, c)
					}
				}
			}
		}
	}
}

func TestBallotFirstOfInvalidArguments(t *testing.T) {
	for n := range 8 {
		for _, left := range [][]bool{make([]bool, n), slices.Repeat([]bool{true}, n)} {
			for _, b := range append(listsOf(-1, 5, 4), invalidLists()...) {
				if isBallot(b, n) {
					continue
				}
				if first := impl.BallotFirst(b, left); first != -1 {
					t.Fatalf("BallotFirst(%v, %v) returned %d", b, left, first)
				}
			}
		}
	}
	if first := impl.BallotFirst([]int{0}, make([]bool, 1000)); first != -1 {
		t.Errorf("BallotFirst for 1000 candidates returned %d", first)
	}
}

func TestBallotPrefersExamples(t *testing.T) {
	for _, e := range []struct {
		text string
		x, y int
		want bool
	}{
		{"cab", 2, 0, true}, {"cab", 2, 1, true}, {"cab", 0, 1, true},
		{"cab", 0, 2, false}, {"cab", 1, 2, false}, {"cab", 1, 0, false},
		{"cab", 1, 3, true}, {"cab", 3, 1, false}, {"cab", 3, 4, false}, {"cab", 4, 3, false},
		{"cab", 2, 2, false}, {"cab", 4, 4, false},
		{"cab", 1, -1, true}, {"cab", -1, 1, false}, {"cab", 1, 5, true}, {"cab", 5, 1, false},
		{"cab", -1, -1, false}, {"cab", -1, 5, false}, {"cab", 3, -1, false}, {"cab", -1, 3, false},
		{"a", 0, 4, true}, {"a", 4, 0, false}, {"", 0, 1, false}, {"", 1, 0, false}, {"", 0, -1, false},
	} {
		b, ok := impl.BallotParse(e.text)
		if got := impl.BallotPrefers(b, e.x, e.y); !ok || got != e.want {
			t.Errorf("BallotPrefers of %q returned %v for %d and %d", e.text, got, e.x, e.y)
		}
	}
}

// anyNumbers returns the candidates and numbers that are no candidate's.
func anyNumbers() []int {
	return append([]int{0, 1, 2, 3, 4, 5}, oddNumbers...)
}

func TestPromise6NoPreferenceBothWays(t *testing.T) {
	for _, b := range append(ballotsOf(5), invalidLists()...) {
		for _, x := range anyNumbers() {
			if impl.BallotPrefers(b, x, x) {
				t.Fatalf("%v prefers %d to the same one", b, x)
			}
			for _, y := range anyNumbers() {
				if impl.BallotPrefers(b, x, y) && impl.BallotPrefers(b, y, x) {
					t.Fatalf("%v prefers %d to %d both ways", b, x, y)
				}
			}
		}
	}
}

func TestPromise7PreferredToAllBehindAndNotNamed(t *testing.T) {
	for _, b := range ballotsOf(5) {
		for i, x := range b {
			for _, y := range b[:i] {
				if impl.BallotPrefers(b, x, y) {
					t.Fatalf("%v prefers %d to %d, who is ahead", b, x, y)
				}
			}
			for _, y := range b[i+1:] {
				if !impl.BallotPrefers(b, x, y) {
					t.Fatalf("%v does not prefer %d to %d, who is behind", b, x, y)
				}
			}
		}
		for _, y := range anyNumbers() {
			if slices.Contains(b, y) {
				continue
			}
			for _, x := range anyNumbers() {
				if got := impl.BallotPrefers(b, x, y); got != slices.Contains(b, x) {
					t.Fatalf("BallotPrefers(%v, %d, %d) returned %v, though %d is not named", b, x, y, got, y)
				}
			}
		}
	}
}

func TestBallotPrefersOfInvalidBallots(t *testing.T) {
	for _, b := range append(listsOf(-1, 5, 4), invalidLists()...) {
		if isBallot(b, 5) {
			continue
		}
		for x := -2; x <= 6; x++ {
			for y := -2; y <= 6; y++ {
				if impl.BallotPrefers(b, x, y) {
					t.Fatalf("BallotPrefers(%v, %d, %d) holds, though the ballot is invalid", b, x, y)
				}
			}
		}
		for _, x := range oddNumbers {
			if impl.BallotPrefers(b, x, 0) || impl.BallotPrefers(b, 0, x) {
				t.Fatalf("%v prefers one of 0 and %d, though the ballot is invalid", b, x)
			}
		}
	}
}

func TestBallotArgumentsAreNotChanged(t *testing.T) {
	for _, ballot := range append(ballotsOf(5), invalidLists()...) {
		// The numbers in the spare capacity belong to the caller, too.
		spare := append(slices.Clone(ballot), 41, 42, 43)
		b, left := spare[:len(ballot)], []bool{true, false, true, false, true, true}
		impl.BallotValid(b, 5)
		impl.BallotText(b)
		impl.BallotFirst(b, left[:5])
		impl.BallotPrefers(b, 0, 1)
		if !slices.Equal(spare, append(slices.Clone(ballot), 41, 42, 43)) {
			t.Fatalf("%v has become %v", ballot, spare)
		}
		if !slices.Equal(left, []bool{true, false, true, false, true, true}) {
			t.Fatalf("those who have left have become %v", left)
		}
	}
}

func TestParsedBallotsShareNoMemory(t *testing.T) {
	for _, ballot := range ballotsOf(5) {
		text := lettersOf(ballot)
		first, _ := impl.BallotParse(text)
		second, _ := impl.BallotParse(text)
		for i := range first[:cap(first)] {
			first[:cap(first)][i] = -7
		}
		if third, _ := impl.BallotParse(text); !slices.Equal(second, ballot) || !slices.Equal(third, ballot) {
			t.Fatalf("BallotParse(%q) returned %v and %v", text, second, third)
		}
	}
}
