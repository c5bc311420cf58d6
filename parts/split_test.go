package parts_test

import (
	"math"
	"slices"
	"testing"

	"tabulary/api"
	"tabulary/parts"
)

func wantSplit(t *testing.T, what string, l list, at int, row string, left, right int, want list) {
	t.Helper()
	got, f := parts.Split(l, at, row, left, right)
	wantParts(t, "Split of "+what, got, f, want)
}

func wantNoSplit(t *testing.T, what string, l list, at int, row string, left, right int, want api.Fault) {
	t.Helper()
	got, f := parts.Split(l, at, row, left, right)
	wantNoParts(t, "Split of "+what, got, f, want)
}

func TestSplit(t *testing.T) {
	wantSplit(t, "one part", list{{ID: 5}}, 0, "m", 1, 2, list{part("", "m", 1), part("m", "", 2)})
	l := four()
	wantSplit(t, "the first", l, 0, "b", 1, 2, list{part("", "b", 1), part("b", "c", 2), l[1], l[2], l[3]})
	wantSplit(t, "the second", l, 1, "e", 2, 1, list{l[0], part("c", "e", 2), part("e", "m", 1), l[2], l[3]})
	wantSplit(t, "the last but one", l, 2, "s", 1, 2, list{l[0], l[1], part("m", "s", 1), part("s", "t", 2), l[3]})
	wantSplit(t, "the last", l, 3, "z", 1, 2, list{l[0], l[1], l[2], part("t", "z", 1), part("z", "", 2)})
}

func TestSplitAtRows(t *testing.T) {
	l := four()
	wantSplit(t, "the first at the row of a nought", l, 0, "\x00", 1, 2, list{part("", "\x00", 1), part("\x00", "c", 2), l[1], l[2], l[3]})
	wantSplit(t, "one right behind its first row", l, 1, "c\x00", 1, 2, list{l[0], part("c", "c\x00", 1), part("c\x00", "m", 2), l[2], l[3]})
	long := "c" + x(api.MaxKey-1)
	wantSplit(t, "one at a row of MaxKey bytes", l, 1, long, 1, 2, list{l[0], part("c", long, 1), part(long, "m", 2), l[2], l[3]})
	ahead := cutAt("c", "d\x00")
	wantSplit(t, "one right ahead of its end", ahead, 1, "d", 1, 2, list{ahead[0], part("c", "d", 1), part("d", "d\x00", 2), ahead[2]})
}

// TestSplitIDs: the two may have the part's own ID, and any that no other part has.
func TestSplitIDs(t *testing.T) {
	l := four()
	for _, ids := range [][2]int{{11, 1}, {1, 11}, {0, api.MaxNum}, {api.MaxNum, 0}} {
		wantSplit(t, "one", l, 1, "e", ids[0], ids[1], list{l[0], part("c", "e", ids[0]), part("e", "m", ids[1]), l[2], l[3]})
	}
	wantSplit(t, "one part of the ID 0", list{{}}, 0, "a", 0, 1, list{part("", "a", 0), part("a", "", 1)})
}

func TestSplitAtNoPart(t *testing.T) {
	for _, l := range []list{{{}}, four(), most()} {
		for _, at := range []int{-1, len(l), len(l) + 1, math.MinInt, math.MaxInt} {
			wantNoSplit(t, "no part", l, at, "e", 1, 2, fault(api.ErrRange, -1))
			wantNoSplit(t, "no part, with all else wrong", l, at, x(api.MaxKey+1), -1, -1, fault(api.ErrRange, -1))
			wantNoSplit(t, "no part, at a row that is not there", l, at, "", 10, 10, fault(api.ErrRange, -1))
		}
	}
}

func TestSplitAtWrongRows(t *testing.T) {
	l := four()
	for at := range l {
		for _, row := range []string{x(api.MaxKey + 1), "d" + x(api.MaxKey), x(1 << 20)} {
			wantNoSplit(t, "a row that is too long", l, at, row, 1, 2, fault(api.ErrSize, -2))
			wantNoSplit(t, "a row that is too long, with wrong IDs", l, at, row, -1, 10, fault(api.ErrSize, -2))
		}
		for _, row := range []string{"", "b", "c", "e", "m", "s", "t", "z", x(api.MaxKey)} {
			if l[at].From != row && isOf(row, l[at].From, l[at].To) {
				continue
			}
			wantNoSplit(t, "a row that it does not have, or begins with", l, at, row, 1, 2, fault(api.ErrForm, -2))
			wantNoSplit(t, "such a row, with an ID below 0", l, at, row, -1, 2, fault(api.ErrForm, -2))
			wantNoSplit(t, "such a row, with IDs that others have", l, at, row, 10, 13, fault(api.ErrForm, -2))
			wantNoSplit(t, "such a row, with IDs that are the same", l, at, row, 1, 1, fault(api.ErrForm, -2))
		}
	}
	wantNoSplit(t, "all rows, at the empty one", list{{}}, 0, "", 1, 2, fault(api.ErrForm, -2))
	wantNoSplit(t, "rows of a first byte, at that", cutAt("a", "b"), 1, "a", 1, 2, fault(api.ErrForm, -2))
}

func TestSplitWithWrongIDs(t *testing.T) {
	l := four()
	for _, id := range []int{-1, api.MaxNum + 1, math.MinInt, math.MaxInt} {
		for _, other := range []int{0, 10, 11, api.MaxNum, id} {
			wantNoSplit(t, "a left ID that is none", l, 1, "e", id, other, fault(api.ErrRange, -3))
			wantNoSplit(t, "a right ID that is none", l, 1, "e", other, id, fault(api.ErrRange, -3))
		}
	}
	for _, id := range []int{0, 11, 77, api.MaxNum} {
		wantNoSplit(t, "IDs that are the same", l, 1, "e", id, id, fault(api.ErrTwice, -3))
	}
	rows := []string{"b", "e", "s", "z"}
	for at := range l {
		for i, p := range l {
			if i == at {
				continue
			}
			wantNoSplit(t, "a left ID that another one has", l, at, rows[at], p.ID, 1, fault(api.ErrTwice, -3))
			wantNoSplit(t, "a right ID that another one has", l, at, rows[at], 1, p.ID, fault(api.ErrTwice, -3))
			wantNoSplit(t, "an ID of its own, and one that another one has", l, at, rows[at], l[at].ID, p.ID, fault(api.ErrTwice, -3))
		}
	}
}

// TestSplitOfTheMost: that they would be too many is told last.
func TestSplitOfTheMost(t *testing.T) {
	l := most()
	for _, at := range []int{0, 1, 100, 199} {
		row := l[at].From + "\x00"
		wantNoSplit(t, "the most", l, at, row, 1, 2, fault(api.ErrMany, -1))
		wantNoSplit(t, "the most, with the part's own ID", l, at, row, l[at].ID, 2, fault(api.ErrMany, -1))
		wantNoSplit(t, "the most, at a row that is too long", l, at, row+x(api.MaxKey), 1, 2, fault(api.ErrSize, -2))
		wantNoSplit(t, "the most, at a row that it begins with", l, at, l[at].From, 1, 2, fault(api.ErrForm, -2))
		wantNoSplit(t, "the most, with an ID that is none", l, at, row, 1, -1, fault(api.ErrRange, -3))
		wantNoSplit(t, "the most, with IDs that are the same", l, at, row, 1, 1, fault(api.ErrTwice, -3))
		wantNoSplit(t, "the most, with an ID that another one has", l, at, row, l[(at+1)%200].ID, 1, fault(api.ErrTwice, -3))
	}
	fewer := cutAt(rising(api.MaxParts - 2)...)
	got, f := parts.Split(fewer, 198, "z", 1, 2)
	wantParts(t, "Split of one less than the most", got, f, append(slices.Clone(fewer[:198]), part(fewer[198].From, "z", 1), part("z", "", 2)))
}
