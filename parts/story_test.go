package parts_test

import (
	"slices"
	"testing"

	"tabulary/api"
	"tabulary/parts"
)

// wantTiled: each row is in just one part, which Find tells.
func wantTiled(t *testing.T, l list, rows ...string) {
	t.Helper()
	for _, row := range rows {
		n, f := parts.Find(l, row)
		wantFault(t, "Find", f, api.Fault{})
		if has := havingByHand(l, row); !slices.Equal(has, []int{n}) {
			t.Fatalf("%q is found in %d, and %v of %s have it", row, n, has, told(l))
		}
	}
}

// begins: the rows with which parts begin.
func begins(l list) []string {
	var out []string
	for _, p := range l {
		out = append(out, p.From)
	}
	return out
}

// step splits or joins, as it comes, in splits of ten cases the former, and holds that against what is done by hand.
func step(t *testing.T, s *number, l list, splits int) (list, api.Fault) {
	t.Helper()
	var got, want list
	var f, wanted api.Fault
	at, left, right := s.below(len(l)+2)-1, s.below(2000)-5, s.below(2000)-5
	if s.below(10) < splits {
		row := anyRow(s)
		if s.below(3) > 0 {
			at = havingByHand(l, row)[0]
		}
		got, f = parts.Split(l, at, row, left, right)
		want, wanted = splitByHand(l, at, row, left, right)
	} else {
		got, f = parts.Join(l, at, left)
		want, wanted = joinByHand(l, at, left)
	}
	if f != wanted || !slices.Equal(got, want) {
		t.Fatalf("%s, %v, want %s, %v", told(got), f, told(want), wanted)
	}
	return got, f
}

// TestWhateverIsSplitAndJoined: steps in whatever order, also such as are refused.
func TestWhateverIsSplitAndJoined(t *testing.T) {
	s := number(4)
	codes := map[int]int{}
	for _, l := range []list{{{ID: 5}}, four(), cutAt(rising(190)...), most()} {
		for i := range 1500 {
			// First mostly split, then mostly joined.
			splits := 9
			if i > 800 {
				splits = 2
			}
			then, f := step(t, &s, l, splits)
			codes[f.Code]++
			if f == (api.Fault{}) {
				l = then
			}
			wantFine(t, "whatever is split and joined", l)
			wantTiled(t, l, anyRow(&s))
			if i%50 == 0 {
				wantTiled(t, l, append(begins(l), someRows()...)...)
			}
		}
	}
	for _, code := range []int{api.OK, api.ErrRange, api.ErrSize, api.ErrForm, api.ErrTwice, api.ErrMany} {
		if codes[code] < 20 {
			t.Errorf("the code %d is told %d times alone", code, codes[code])
		}
	}
}

// TestSplitAndJoinedAgain: as it was, whichever part and row it is.
func TestSplitAndJoinedAgain(t *testing.T) {
	s := number(5)
	for range 1000 {
		l := anyParts(&s, s.below(30))
		row := anyRow(&s)
		at := havingByHand(l, row)[0]
		if len(row) > api.MaxKey || row == l[at].From {
			continue
		}
		ids := []int{l[at].ID, 5000, 5001}
		left := s.below(3)
		then, f := parts.Split(l, at, row, ids[left], ids[(left+1)%3])
		wantFault(t, "Split", f, api.Fault{})
		if len(then) != len(l)+1 {
			t.Fatalf("%d parts of %d", len(then), len(l))
		}
		wantTiled(t, then, append(begins(then), someRows()...)...)
		again, f := parts.Join(then, at, l[at].ID)
		wantParts(t, "what is split and joined again", again, f, l)
	}
}

// TestJoinedAndSplitAgain: as it was, too.
func TestJoinedAndSplitAgain(t *testing.T) {
	s := number(6)
	for range 300 {
		l := anyParts(&s, 1+s.below(30))
		for at := range len(l) - 1 {
			then, f := parts.Join(l, at, []int{l[at].ID, l[at+1].ID, 5000}[s.below(3)])
			wantFault(t, "Join", f, api.Fault{})
			again, f := parts.Split(then, at, l[at].To, l[at].ID, l[at+1].ID)
			wantParts(t, "what is joined and split again", again, f, l)
		}
	}
}

// TestAllAreJoined: from one part to as many as there may be, and back.
func TestAllAreJoined(t *testing.T) {
	l := list{{}}
	for i, row := range rising(api.MaxParts - 1) {
		then, f := parts.Split(l, i, row, i, i+1)
		wantFault(t, "Split", f, api.Fault{})
		l = then
	}
	if len(l) != api.MaxParts {
		t.Fatalf("%d parts", len(l))
	}
	wantTiled(t, l, begins(l)...)
	for len(l) > 1 {
		then, f := parts.Join(l, len(l)/2-1, api.MaxNum-len(l))
		wantFault(t, "Join", f, api.Fault{})
		wantTiled(t, then, begins(l)...)
		l = then
	}
	wantParts(t, "all that are joined", l, api.Fault{}, list{{ID: api.MaxNum - 2}})
}
