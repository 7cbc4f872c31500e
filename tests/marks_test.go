package tests

import (
	"math"
	"slices"
	"testing"

	"loop.example/tallyaudit/impl"
)

// badMarks are numbers that are never a mark.
var badMarks = []int{math.MinInt, math.MinInt32, -64, -10, -9, -2, -1, 10, 11, 16, 63, 64, 65, 73, 128, 256, math.MaxInt32, math.MaxInt - 1, math.MaxInt}

// allMarks returns all valid marks of 1 to length candidates.
func allMarks(length int) [][]int {
	return listsOf(0, 9, length)[1:]
}

// invalidMarks returns marks that are invalid: none, too many, or out of range.
func invalidMarks() [][]int {
	lists := [][]int{
		nil, {}, {0, 0, 0, 0, 0, 0}, {1, 2, 3, 4, 5, 6}, {1, 2, 3, 4, 5, 0}, {1, 1, 2, 3, 4, 5}, {9, 9, 9, 9, 9, 9, 9},
		make([]int, 100), slices.Repeat([]int{3}, 1000),
	}
	for _, bad := range badMarks {
		lists = append(lists, []int{bad}, []int{bad, 1}, []int{1, bad}, []int{1, 1, bad}, []int{0, 0, 0, 0, bad}, []int{1, 2, bad, 3, 4})
	}
	return lists
}

// tally returns how many times a number is on a list.
func tally(list []int, x int) int {
	count := 0
	for _, y := range list {
		if x == y {
			count++
		}
	}
	return count
}

// ballotOfMarks is the document's definition of the ballot of valid marks, in other words.
func ballotOfMarks(marks []int) []int {
	b := []int{}
	for mark := 1; mark <= 9 && tally(marks, mark) <= 1; mark++ {
		if c := slices.Index(marks, mark); c != -1 {
			b = append(b, c)
		}
	}
	return b
}

// marksOfReaders is the document's definition of agreed marks of valid readers, in other words.
func marksOfReaders(readers [][]int) ([]int, bool) {
	agreed := []int{}
	for c := range readers[0] {
		column := []int{}
		for _, marks := range readers {
			column = append(column, marks[c])
		}
		// What more than half have read is in the middle.
		slices.Sort(column)
		middle := column[len(column)/2]
		if 2*tally(column, middle) <= len(column) {
			return nil, false
		}
		agreed = append(agreed, middle)
	}
	return agreed, true
}

// readersOf returns all lists of 1 to 5 readers, each with one of some marks.
func readersOf(some [][]int) [][][]int {
	all := [][][]int{}
	for _, numbers := range listsOf(0, len(some)-1, 5)[1:] {
		readers := [][]int{}
		for _, k := range numbers {
			readers = append(readers, some[k])
		}
		all = append(all, readers)
	}
	return all
}

// manyReaders returns lists of valid readers, with marks of 1 to 5 candidates.
func manyReaders() [][][]int {
	return slices.Concat(
		readersOf([][]int{{0}, {1}, {2}, {8}, {9}}),
		readersOf([][]int{{0, 0}, {0, 9}, {9, 0}, {9, 9}, {1, 2}}),
		readersOf([][]int{{1, 2, 3}, {1, 2, 0}, {1, 3, 2}, {4, 2, 3}}),
		readersOf([][]int{{1, 2, 3, 4}, {2, 2, 3, 4}, {1, 2, 4, 3}, {1, 0, 3, 0}}),
		readersOf([][]int{{1, 2, 3, 4, 5}, {1, 2, 3, 4, 0}, {9, 2, 3, 4, 5}, {1, 2, 2, 4, 5}, {0, 0, 0, 0, 0}}),
	)
}

// invalidReaders returns lists of readers that are invalid.
func invalidReaders() [][][]int {
	lists := [][][]int{
		nil, {}, {nil}, {{}}, {{}, {}}, {nil, nil, nil},
		slices.Repeat([][]int{{1, 2}}, 6), slices.Repeat([][]int{{1, 2}}, 7), slices.Repeat([][]int{{0}}, 1000), slices.Repeat([][]int{nil}, 6),
		{{1, 2, 3, 4, 5, 6}}, slices.Repeat([][]int{{1, 2, 3, 4, 5, 6}}, 3),
		{{1, 2}, {1}}, {{1}, {1, 2}}, {{1, 2}, {1, 2}, {1}}, {{1, 2}, {1, 2}, {1, 2, 0}}, {{1}, {1, 2}, {1, 2}}, {{1, 2, 0}, {1, 2}, {1, 2}},
		{{1, 2}, {1, 2}, {}}, {{}, {1, 2}, {1, 2}}, {{1, 2}, nil, {1, 2}}, {{1, 2}, {1, 2}, {1, 2}, {1, 2}, {1}},
		{{1, 2, 3, 4, 5}, {1, 2, 3, 4, 5}, {1, 2, 3, 4, 5, 0}}, {{1, 2, 3, 4, 5, 0}, {1, 2, 3, 4, 5}, {1, 2, 3, 4, 5}},
	}
	for _, bad := range badMarks {
		lists = append(lists, [][]int{{bad}}, [][]int{{bad}, {bad}, {bad}})
		// A mark out of range is also invalid if all others agree.
		for i := range 5 {
			readers := slices.Repeat([][]int{{3, 1}}, 5)
			readers[i] = []int{3, bad}
			lists = append(lists, readers)
		}
	}
	return lists
}

func TestRankMaxAndReaderMax(t *testing.T) {
	if impl.RankMax != 9 {
		t.Errorf("RankMax is %d", impl.RankMax)
	}
	if impl.ReaderMax != 5 {
		t.Errorf("ReaderMax is %d", impl.ReaderMax)
	}
}

func TestMarksReadExamples(t *testing.T) {
	for _, e := range []struct {
		marks []int
		text  string
	}{
		{[]int{1}, "a"}, {[]int{9}, "a"}, {[]int{0}, ""}, {[]int{0, 0, 0, 0, 0}, ""},
		{[]int{1, 2, 3, 4, 5}, "abcde"}, {[]int{5, 4, 3, 2, 1}, "edcba"}, {[]int{2, 9, 4}, "acb"}, {[]int{9, 8, 7, 6, 5}, "edcba"},
		{[]int{0, 2, 0, 1, 0}, "db"}, {[]int{0, 0, 7}, "c"},
		// Of the marks that several have, the smallest one ends the ballot.
		{[]int{1, 1}, ""}, {[]int{9, 9}, ""}, {[]int{1, 1, 2}, ""}, {[]int{2, 2, 1}, "c"}, {[]int{9, 1, 9}, "b"},
		{[]int{3, 1, 0, 5, 5}, "ba"}, {[]int{5, 5, 3, 3, 1}, "e"}, {[]int{1, 3, 3, 5, 5}, "a"}, {[]int{3, 5, 3, 5, 4}, ""},
		{[]int{4, 4, 4, 1, 2}, "de"}, {[]int{2, 2, 2, 2, 2}, ""}, {[]int{2, 2, 2, 2, 1}, "e"}, {[]int{1, 2, 2, 2, 9}, "a"},
		{[]int{0, 0, 1, 2, 2}, "c"}, {[]int{0, 0, 0, 1, 1}, ""}, {[]int{8, 9, 8, 0, 1}, "e"}, {[]int{9, 9, 8, 0, 0}, "c"},
	} {
		if b, ok := impl.MarksRead(e.marks); !ok || impl.BallotText(b) != e.text || len(b) != len(e.text) {
			t.Errorf("MarksRead(%v) returned %v, %v, not %q", e.marks, b, ok, e.text)
		}
	}
}

func TestMarksReadOfAllMarks(t *testing.T) {
	for _, marks := range allMarks(5) {
		if b, ok := impl.MarksRead(marks); !ok || !slices.Equal(b, ballotOfMarks(marks)) {
			t.Fatalf("MarksRead(%v) returned %v, %v", marks, b, ok)
		}
	}
}

func TestMarksReadOfInvalidMarks(t *testing.T) {
	for _, marks := range invalidMarks() {
		if b, ok := impl.MarksRead(marks); ok || len(b) != 0 {
			t.Errorf("MarksRead(%.10v) returned %v, %v", marks, b, ok)
		}
	}
}

func TestMarksOfExamples(t *testing.T) {
	for _, e := range []struct {
		text  string
		n     int
		marks []int
	}{
		{"", 1, []int{0}}, {"", 5, []int{0, 0, 0, 0, 0}}, {"a", 1, []int{1}}, {"a", 3, []int{1, 0, 0}},
		{"ca", 3, []int{2, 0, 1}}, {"ca", 5, []int{2, 0, 1, 0, 0}}, {"cab", 3, []int{2, 3, 1}}, {"e", 5, []int{0, 0, 0, 0, 1}},
		{"abcde", 5, []int{1, 2, 3, 4, 5}}, {"edcba", 5, []int{5, 4, 3, 2, 1}}, {"badce", 5, []int{2, 1, 4, 3, 5}},
	} {
		b, _ := impl.BallotParse(e.text)
		if marks, ok := impl.MarksOf(b, e.n); !ok || !slices.Equal(marks, e.marks) {
			t.Errorf("MarksOf(%v, %d) returned %v, %v", b, e.n, marks, ok)
		}
	}
}

func TestMarksOfInvalidBallots(t *testing.T) {
	numbers := append([]int{0, 1, 2, 3, 4, 5}, oddNumbers...)
	for _, b := range append(listsOf(-1, 5, 4), invalidLists()...) {
		for _, n := range numbers {
			if isBallot(b, n) {
				continue
			}
			if marks, ok := impl.MarksOf(b, n); ok || len(marks) != 0 {
				t.Fatalf("MarksOf(%.10v, %d) returned %v, %v", b, n, marks, ok)
			}
		}
	}
}

func TestPromise8MarksLeadBackToTheBallot(t *testing.T) {
	for n := 1; n <= 5; n++ {
		for _, b := range ballotsOf(n) {
			marks, ok := impl.MarksOf(b, n)
			if !ok || len(marks) != n {
				t.Fatalf("MarksOf(%v, %d) returned %v, %v", b, n, marks, ok)
			}
			for c, mark := range marks {
				if mark != slices.Index(b, c)+1 {
					t.Fatalf("MarksOf(%v, %d) returned %v", b, n, marks)
				}
			}
			if got, ok := impl.MarksRead(marks); !ok || !slices.Equal(got, b) {
				t.Fatalf("MarksRead(%v) returned %v, %v, not %v", marks, got, ok, b)
			}
		}
	}
}

func TestPromise9ReadBallotsAreValidAndAscend(t *testing.T) {
	for _, marks := range append(allMarks(5), invalidMarks()...) {
		b, ok := impl.MarksRead(marks)
		if !ok {
			continue
		}
		if !impl.BallotValid(b, len(marks)) {
			t.Fatalf("MarksRead(%v) returned %v, which is invalid", marks, b)
		}
		last := 0
		for _, c := range b {
			if marks[c] <= last || tally(marks, marks[c]) != 1 {
				t.Fatalf("MarksRead(%v) returned %v, with %d", marks, b, c)
			}
			last = marks[c]
		}
	}
}

func TestPromise10OthersAreNotAheadOfASharedMark(t *testing.T) {
	for _, marks := range allMarks(5) {
		b, ok := impl.MarksRead(marks)
		if !ok {
			t.Fatalf("MarksRead(%v) failed", marks)
		}
		shared := 10
		for _, mark := range marks {
			if mark != 0 && tally(marks, mark) > 1 {
				shared = min(shared, mark)
			}
		}
		for c, mark := range marks {
			if mark != 0 && mark < shared && !slices.Contains(b, c) {
				t.Fatalf("MarksRead(%v) returned %v, without %d", marks, b, c)
			}
		}
	}
}

func TestPromise11GreaterMarksAreTheSameBallot(t *testing.T) {
	count := 0
	for _, marks := range allMarks(5) {
		if slices.Max(marks) == 9 {
			continue
		}
		count++
		greater := slices.Clone(marks)
		for c := range greater {
			if greater[c] != 0 {
				greater[c]++
			}
		}
		b, ok := impl.MarksRead(marks)
		got, fine := impl.MarksRead(greater)
		if !ok || !fine || !slices.Equal(got, b) {
			t.Fatalf("MarksRead(%v) returned %v, %v, and that of %v %v, %v", marks, b, ok, greater, got, fine)
		}
	}
	if count != 9+9*9+9*9*9+9*9*9*9+9*9*9*9*9 {
		t.Errorf("%d lists of marks were read", count)
	}
}

func TestMarksAgreeExamples(t *testing.T) {
	for _, e := range []struct {
		readers [][]int
		want    []int
	}{
		{[][]int{{1, 2}, {1, 0}, {1, 2}}, []int{1, 2}},
		{[][]int{{3}}, []int{3}},
		{[][]int{{0, 0, 0, 0, 0}}, []int{0, 0, 0, 0, 0}},
		{[][]int{{4, 4, 9, 0, 1}, {4, 4, 9, 0, 1}}, []int{4, 4, 9, 0, 1}},
		// No mark is also what readers agree on.
		{[][]int{{0, 1}, {0, 1}, {2, 1}}, []int{0, 1}},
		{[][]int{{1, 2, 0}, {1, 0, 3}, {0, 2, 3}}, []int{1, 2, 3}},
		{[][]int{{9, 8}, {9, 8}, {9, 1}, {0, 8}, {1, 2}}, []int{9, 8}},
		{[][]int{{1}, {1}, {1}, {2}}, []int{1}},
		{[][]int{{2}, {1}, {2}, {2}, {1}}, []int{2}},
		// Exactly half of all readers is not enough.
		{[][]int{{1}, {2}}, nil},
		{[][]int{{0}, {1}}, nil},
		{[][]int{{1}, {1}, {2}, {2}}, nil},
		{[][]int{{1}, {2}, {2}, {1}}, nil},
		{[][]int{{1}, {1}, {2}, {3}}, nil},
		{[][]int{{0}, {0}, {1}, {2}}, nil},
		// Nor are most of them.
		{[][]int{{1}, {2}, {3}}, nil},
		{[][]int{{1}, {1}, {2}, {2}, {3}}, nil},
		{[][]int{{1}, {1}, {2}, {3}, {4}}, nil},
		{[][]int{{0}, {0}, {1}, {2}, {3}}, nil},
		// They agree on all candidates, or not at all.
		{[][]int{{1, 2}, {1, 3}}, nil},
		{[][]int{{2, 1}, {3, 1}}, nil},
		{[][]int{{1, 2, 3, 4, 5}, {1, 2, 3, 4, 5}, {1, 2, 3, 4, 5}, {1, 2, 3, 4, 0}, {1, 2, 3, 4, 9}}, []int{1, 2, 3, 4, 5}},
		{[][]int{{1, 2, 3, 4, 5}, {1, 2, 3, 4, 5}, {1, 2, 3, 4, 6}, {1, 2, 3, 4, 0}, {1, 2, 3, 4, 9}}, nil},
	} {
		marks, ok := impl.MarksAgree(e.readers)
		if ok != (e.want != nil) || !slices.Equal(marks, e.want) {
			t.Errorf("MarksAgree(%v) returned %v, %v", e.readers, marks, ok)
		}
	}
}

func TestMarksAgreeOfManyReaders(t *testing.T) {
	agreed := 0
	for _, readers := range manyReaders() {
		want, fine := marksOfReaders(readers)
		if marks, ok := impl.MarksAgree(readers); ok != fine || !slices.Equal(marks, want) {
			t.Fatalf("MarksAgree(%v) returned %v, %v", readers, marks, ok)
		}
		if fine {
			agreed++
		}
	}
	if agreed == 0 || agreed == len(manyReaders()) {
		t.Errorf("%d of %d lists of readers agree", agreed, len(manyReaders()))
	}
}

func TestMarksAgreeOfInvalidReaders(t *testing.T) {
	for _, readers := range invalidReaders() {
		if marks, ok := impl.MarksAgree(readers); ok || len(marks) != 0 {
			t.Errorf("MarksAgree(%.10v) returned %v, %v", readers, marks, ok)
		}
	}
	for _, bad := range invalidMarks() {
		if marks, ok := impl.MarksAgree([][]int{bad}); ok || len(marks) != 0 {
			t.Errorf("MarksAgree of one reader with %.10v returned %v, %v", bad, marks, ok)
		}
	}
}

func TestPromise12MoreThanHalfHaveReadTheMarks(t *testing.T) {
	for _, readers := range append(manyReaders(), invalidReaders()...) {
		marks, ok := impl.MarksAgree(readers)
		if !ok {
			continue
		}
		if len(marks) != len(readers[0]) {
			t.Fatalf("MarksAgree(%v) returned %v", readers, marks)
		}
		for c, mark := range marks {
			count := 0
			for _, read := range readers {
				if read[c] == mark {
					count++
				}
			}
			if 2*count <= len(readers) {
				t.Fatalf("MarksAgree(%v) returned %v, though %d have read the mark of %d", readers, marks, count, c)
			}
		}
	}
}

func TestPromise13TheFirstReaderAsTheLastOne(t *testing.T) {
	for _, readers := range append(manyReaders(), invalidReaders()...) {
		if len(readers) == 0 {
			continue
		}
		turned := append(slices.Clone(readers[1:]), readers[0])
		marks, ok := impl.MarksAgree(readers)
		if got, fine := impl.MarksAgree(turned); fine != ok || !slices.Equal(got, marks) {
			t.Fatalf("MarksAgree(%.10v) returned %v, %v, not %v, %v", turned, got, fine, marks, ok)
		}
	}
}

func TestPromise14ReadersOfTheAgreedMarksAgree(t *testing.T) {
	for _, readers := range manyReaders() {
		marks, ok := impl.MarksAgree(readers)
		if !ok {
			continue
		}
		for _, again := range [][][]int{{marks}, {marks, marks, marks}} {
			if got, fine := impl.MarksAgree(again); !fine || !slices.Equal(got, marks) {
				t.Fatalf("MarksAgree(%v) returned %v, %v", again, got, fine)
			}
		}
	}
}

func TestMarksArgumentsAreNotChanged(t *testing.T) {
	for _, list := range append(listsOf(0, 4, 5), invalidMarks()...) {
		// The numbers in the spare capacity belong to the caller, too.
		spare := append(slices.Clone(list), 41, 42, 43)
		marks := spare[:len(list)]
		readers := [][]int{marks, marks, spare[:min(1, len(list))]}
		impl.MarksRead(marks)
		impl.MarksOf(marks, 5)
		impl.MarksAgree(readers[:2])
		impl.MarksAgree(readers)
		if !slices.Equal(spare, append(slices.Clone(list), 41, 42, 43)) {
			t.Fatalf("%.10v has become %.10v", list, spare)
		}
		if len(readers[0]) != len(list) || len(readers[1]) != len(list) || len(readers[2]) != min(1, len(list)) {
			t.Fatalf("readers have become %v", readers)
		}
	}
}

func TestMarksResultsShareNoMemory(t *testing.T) {
	// overwrite fills a result and its spare capacity.
	overwrite := func(list []int) {
		for i := range list[:cap(list)] {
			list[:cap(list)][i] = -7
		}
	}
	for _, list := range append(allMarks(3), []int{1, 2, 3, 4, 0}, []int{5, 4, 3, 2, 1}) {
		marks := append(slices.Clone(list), 41, 42, 43)[:len(list)]
		b, _ := impl.MarksRead(marks)
		overwrite(b)
		for _, readers := range [][][]int{{marks}, {marks, marks, marks}} {
			agreed, _ := impl.MarksAgree(readers)
			overwrite(agreed)
		}
		if !slices.Equal(marks[:len(list)+3], append(slices.Clone(list), 41, 42, 43)) {
			t.Fatalf("%v has become %v", list, marks)
		}
		if got, ok := impl.MarksRead(marks); !ok || !slices.Equal(got, ballotOfMarks(list)) {
			t.Fatalf("MarksRead(%v) returned %v, %v", list, got, ok)
		}
	}
	for _, ballot := range ballotsOf(5) {
		b := append(slices.Clone(ballot), 41, 42, 43)[:len(ballot)]
		marks, _ := impl.MarksOf(b, 5)
		overwrite(marks)
		if !slices.Equal(b[:len(ballot)+3], append(slices.Clone(ballot), 41, 42, 43)) {
			t.Fatalf("%v has become %v", ballot, b)
		}
	}
}
