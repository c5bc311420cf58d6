package raft_test

import (
	"testing"

	"tabulary/api"
)

// wantKnown: an answer lets the node know this of the one that answers, and this many to be for good.
func wantKnown(t *testing.T, what string, x api.Node, m api.Mail, next, have, commit int) {
	t.Helper()
	want := but(x, func(x *api.Node) { x.Next[m.From], x.Have[m.From], x.Commit = next, have, commit })
	wantTaken(t, what, x, m, want)
}

// ofOld: one that leads three nodes in the Term 5, with entries of an older Term alone, which are not for good however many have them.
func ofOld() api.Node { return leader(3, 1, 5, many(6, 3)) }

// looking: ofOld, for whom of 0 this comes next, and which has so many.
func looking(next, have int) api.Node {
	x := ofOld()
	x.Next[0], x.Have[0] = next, have
	return x
}

func TestAnswersWithOk(t *testing.T) {
	for _, c := range []struct{ next, have, a, wantNext, wantHave int }{
		{7, 0, 0, 1, 0}, {7, 0, 1, 2, 1}, {7, 0, 5, 6, 5}, {7, 0, 6, 7, 6}, {7, 0, 7, 7, 6}, {7, 0, api.MaxNum, 7, 6},
		{1, 0, 5, 6, 5}, {3, 2, 5, 6, 5}, {4, 2, 3, 4, 3}, {1, 6, 6, 7, 6},
		// They come late, or twice.
		{5, 4, 4, 5, 4}, {5, 4, 3, 5, 4}, {5, 4, 0, 5, 4}, {7, 4, 2, 5, 4}, {1, 4, 2, 5, 4}, {7, 6, 0, 7, 6},
	} {
		wantKnown(t, "an answer with Ok", looking(c.next, c.have), says(0, 1, 5, true, c.a), c.wantNext, c.wantHave, 0)
	}
	wantKnown(t, "an answer with Ok to one of nothing", leader(3, 1, 5, nil), says(2, 1, 5, true, 9), 1, 0, 0)
	wantKnown(t, "an answer with Ok to one of MaxRecs", leader(3, 1, 5, many(api.MaxRecs, 2)), says(2, 1, 5, true, 101), 101, 100, 0)
}

func TestAnswersWithoutOk(t *testing.T) {
	for _, c := range []struct{ next, have, a, wantNext int }{
		{7, 0, 5, 6}, {7, 0, 6, 6}, {7, 0, api.MaxNum, 6}, {7, 0, 4, 5}, {7, 0, 1, 2}, {7, 0, 0, 1}, {4, 0, 9, 3}, {4, 0, 2, 3}, {4, 0, 1, 2}, {2, 0, 0, 1}, {2, 0, 5, 1}, {1, 0, 0, 1}, {1, 0, 5, 1},
		// What it is known to have is not looked for.
		{7, 3, 0, 4}, {7, 3, 2, 4}, {7, 3, 3, 4}, {7, 3, 4, 5}, {7, 5, 0, 6}, {7, 6, 0, 7}, {7, 6, 6, 7}, {4, 3, 0, 4}, {1, 3, 0, 4}, {2, 3, 9, 4}, {1, 6, 0, 7},
	} {
		wantKnown(t, "an answer without Ok", looking(c.next, c.have), says(0, 1, 5, false, c.a), c.wantNext, c.have, 0)
	}
	wantKnown(t, "an answer without Ok to one of nothing", leader(3, 1, 5, nil), says(2, 1, 5, false, 9), 1, 0, 0)
}

// TestAnswersLeaveTheOthers: of each of seven, just that one is known more of.
func TestAnswersLeaveTheOthers(t *testing.T) {
	x := knowing(leader(7, 3, 5, of(1, 2, 3, 4)), 0, 1, 2, 4, 0, 1, 2)
	for from := range 7 {
		if from != 3 {
			wantKnown(t, "an answer of one of seven", x, says(from, 3, 5, true, 3), 4, 3, 0)
			wantKnown(t, "an answer of one of seven without Ok", x, says(from, 3, 5, false, 0), x.Have[from]+1, x.Have[from], 0)
		}
	}
}

// TestAnswersThatCount: an entry of its own Term that most have is for good, with all ahead of it; one of an older Term is not by itself.
func TestAnswersThatCount(t *testing.T) {
	x := leader(3, 1, 5, of(1, 3, 5, 5, 5))
	for a, want := range []int{0, 0, 0, 3, 4, 5, 5} {
		have := min(a, 5)
		wantKnown(t, "an answer of one of two others", x, says(0, 1, 5, true, a), have+1, have, want)
		wantKnown(t, "an answer to one that knows 3 to be for good", withCommit(x, 3), says(0, 1, 5, true, a), have+1, have, max(want, 3))
		wantKnown(t, "an answer to one that knows all to be for good", withCommit(x, 5), says(0, 1, 5, true, a), have+1, have, 5)
		wantKnown(t, "an answer in a later Term", leader(3, 1, 6, x.Log), says(0, 1, 6, true, a), have+1, have, 0)
	}
	mixed := leader(3, 1, 5, of(1, 5, 5))
	wantKnown(t, "an answer of the first entry", mixed, says(2, 1, 5, true, 1), 2, 1, 0)
	wantKnown(t, "an answer of the second entry", mixed, says(2, 1, 5, true, 2), 3, 2, 2)
}

// TestAnswersOfMost: more than half, whoever they are.
func TestAnswersOfMost(t *testing.T) {
	l := of(5, 5, 5)
	for _, c := range []struct {
		have []int
		a    int
		want int
	}{
		{[]int{0, 3}, 2, 2}, {[]int{0, 3}, 3, 3},
		{[]int{0, 3, 0}, 2, 2}, {[]int{0, 3, 1}, 2, 2}, {[]int{0, 3, 3}, 1, 3}, {[]int{0, 3, 2}, 1, 2},
		{[]int{0, 3, 0, 0}, 3, 0}, {[]int{0, 3, 1, 0}, 3, 1}, {[]int{0, 3, 2, 2}, 3, 2}, {[]int{0, 3, 2, 3}, 3, 3},
		{[]int{0, 3, 0, 0, 0}, 3, 0}, {[]int{0, 3, 2, 0, 0}, 3, 2}, {[]int{0, 3, 2, 1, 1}, 1, 1}, {[]int{0, 3, 0, 0, 3}, 2, 2},
		{[]int{0, 3, 2, 0, 0, 0}, 3, 0}, {[]int{0, 3, 2, 1, 0, 0}, 3, 1},
		{[]int{0, 3, 2, 0, 0, 0, 0}, 3, 0}, {[]int{0, 3, 2, 3, 0, 0, 0}, 3, 2}, {[]int{0, 3, 2, 1, 1, 1, 1}, 3, 1}, {[]int{0, 3, 3, 3, 3, 0, 0}, 0, 3},
		// What it has itself counts as it says.
		{[]int{0, 0, 0}, 3, 0}, {[]int{0, 1, 0}, 3, 1}, {[]int{0, 0, 2}, 3, 2},
	} {
		x := knowing(leader(len(c.have), 1, 5, l), c.have...)
		wantKnown(t, "an answer of "+told(c.have), x, says(0, 1, 5, true, c.a), c.a+1, c.a, c.want)
	}
}

// TestAnswersWithoutOkDoNotCount: also where something could be.
func TestAnswersWithoutOkDoNotCount(t *testing.T) {
	x := knowing(leader(3, 1, 5, of(5, 5)), 2, 2, 2)
	wantKnown(t, "an answer without Ok", x, says(0, 1, 5, false, 2), 3, 2, 0)
	wantKnown(t, "an answer with Ok", x, says(0, 1, 5, true, 0), 3, 2, 2)
}

// TestAnswersThatComeTooLate: of an older Term, or to one that does not lead.
func TestAnswersThatComeTooLate(t *testing.T) {
	for _, ok := range []bool{false, true} {
		for _, a := range []int{0, 1, 2, api.MaxNum} {
			for _, x := range someNodes() {
				for _, term := range []int{1, 2, 3} {
					wantTaken(t, "an answer of an older Term", x, says(0, 1, term, ok, a), x)
				}
			}
			for _, x := range someNodes()[:2] {
				wantTaken(t, "an answer to one that does not lead", x, says(0, 1, 4, ok, a), x)
			}
		}
	}
}

// TestAnswersLookAtNothingElse: not at B and C.
func TestAnswersLookAtNothingElse(t *testing.T) {
	m := says(0, 1, 5, true, 3)
	m.B, m.C = 9, 9
	wantKnown(t, "an answer with B and C", looking(7, 0), m, 4, 3, 0)
}
