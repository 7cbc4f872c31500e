package impl

import (
	"iter"
	"slices"
)

// ChoiceMax is the largest number of candidates.
const ChoiceMax = 5

// firstLetter is the letter of candidate 0.
const firstLetter = 'a'

// ballotCandidates yields the candidates of a ballot, the preferred one first.
func ballotCandidates(b []int) iter.Seq[int] {
	return slices.Values(b)
}

// letterCandidates yields the numbers of the letters of a text in order. Other
// bytes yield numbers that are no candidate's, which BallotValid then refuses.
func letterCandidates(text string) iter.Seq[int] {
	return func(yield func(int) bool) {
		for i := range len(text) {
			if !yield(int(text[i]) - firstLetter) {
				return
			}
		}
	}
}

// BallotValid reports whether b is a ballot for n candidates. It may name nobody.
func BallotValid(b []int, n int) bool {
	if n < 1 || n > ChoiceMax {
		return false
	}
	var named [ChoiceMax]bool
	for c := range ballotCandidates(b) {
		if c < 0 || c >= n || named[c] {
			return false
		}
		named[c] = true
	}
	return true
}

// BallotText returns the text of a ballot, or "" if it is not valid for
// ChoiceMax candidates.
func BallotText(b []int) string {
	if !BallotValid(b, ChoiceMax) {
		return ""
	}
	text := make([]byte, 0, ChoiceMax)
	for c := range ballotCandidates(b) {
		text = append(text, byte(firstLetter+c))
	}
	return string(text)
}

// BallotParse returns the ballot, valid for ChoiceMax candidates, of a text.
// The empty text is that of the ballot that names nobody.
func BallotParse(text string) ([]int, bool) {
	// No ballot is longer: a long text needs no memory.
	if len(text) > ChoiceMax {
		return nil, false
	}
	b := slices.Collect(letterCandidates(text))
	if !BallotValid(b, ChoiceMax) {
		return nil, false
	}
	return b, true
}

// BallotFirst returns the first candidate of a ballot who has not left, or -1
// if there is none, or the ballot is not valid for len(left) candidates.
func BallotFirst(b []int, left []bool) int {
	if !BallotValid(b, len(left)) {
		return -1
	}
	for c := range ballotCandidates(b) {
		if !left[c] {
			return c
		}
	}
	return -1
}

// BallotPrefers reports whether a ballot, valid for ChoiceMax candidates,
// prefers x to y. Numbers that are no candidate count as not named.
func BallotPrefers(b []int, x int, y int) bool {
	if x == y || !BallotValid(b, ChoiceMax) {
		return false
	}
	// Whoever of both is named first is preferred, also if the other one is
	// not named at all.
	for c := range ballotCandidates(b) {
		switch c {
		case x:
			return true
		case y:
			return false
		}
	}
	return false
}
