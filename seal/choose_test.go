package seal_test

import (
	"math"
	"slices"
	"testing"

	"tabulary/api"
	"tabulary/seal"
)

func wantChosen(t *testing.T, what string, n int, said []api.Copy, want ...string) {
	t.Helper()
	got, f := seal.Choose(n, said)
	wantFault(t, "Choose of "+what, f, api.Fault{})
	if !slices.Equal(got, want) {
		t.Errorf("Choose of %s: %v, want %v", what, got, want)
	}
}

func wantNoneChosen(t *testing.T, what string, n int, said []api.Copy, want api.Fault) {
	t.Helper()
	got, f := seal.Choose(n, said)
	wantFault(t, "Choose of "+what, f, want)
	if len(got) != 0 {
		t.Errorf("Choose of %s: %v beside a fault", what, got)
	}
}

// TestChooseWhatHasMost: where none was ended, and of those with as many the first one.
func TestChooseWhatHasMost(t *testing.T) {
	wantChosen(t, "one", 1, []api.Copy{closed(2, "a")}, "a")
	wantChosen(t, "an empty one", 1, []api.Copy{closed(0)})
	wantChosen(t, "empty ones", 3, []api.Copy{closed(2), closed(2)})
	wantChosen(t, "the first one", 3, []api.Copy{closed(2, "a", "b"), closed(2, "a")}, "a", "b")
	wantChosen(t, "the second one", 3, []api.Copy{closed(2, "a"), closed(2, "a", "b")}, "a", "b")
	wantChosen(t, "the last one", 5, []api.Copy{closed(2), closed(2, "a"), closed(2, "a", "b")}, "a", "b")
	wantChosen(t, "the one amid", 5, []api.Copy{closed(2, "a"), closed(2, "a", "b", "c"), closed(2, "a", "b")}, "a", "b", "c")
	wantChosen(t, "two with as many", 3, []api.Copy{closed(2, "a"), closed(2, "b")}, "a")
	wantChosen(t, "three, of which two have as many", 4, []api.Copy{closed(2), closed(2, "z"), closed(2, "b")}, "z")
	wantChosen(t, "fewer, but longer records", 3, []api.Copy{closed(2, "a long one"), closed(2, "", "")}, "", "")
	wantChosen(t, "fewer records of a greater epoch", 3, []api.Copy{closed(1, "a", "b"), closed(9, "a")}, "a", "b")
	wantChosen(t, "the most that may be", 1, []api.Copy{closed(1, texts(api.MaxRecs)...)}, texts(api.MaxRecs)...)
}

// TestChooseWhatWasEnded: whatever the others have, and of those that were ended in the greatest epoch the first one.
func TestChooseWhatWasEnded(t *testing.T) {
	few, many := []string{"a"}, []string{"a", "b", "c"}
	for _, c := range []struct {
		what string
		said []api.Copy
		want []string
	}{
		{"one that was ended, ahead", []api.Copy{ended(4, 3, few...), closed(4, many...)}, few},
		{"one that was ended, behind", []api.Copy{closed(4, many...), ended(4, 3, few...)}, few},
		{"one that was ended with nothing", []api.Copy{closed(4, many...), ended(4, 3)}, nil},
		{"one that was ended in epoch 1", []api.Copy{closed(4, many...), ended(4, 1, few...)}, few},
		{"one of a later epoch, ahead", []api.Copy{ended(9, 8, few...), ended(9, 7, many...)}, few},
		{"one of a later epoch, behind", []api.Copy{ended(9, 7, many...), ended(9, 8, few...)}, few},
		{"one of a later epoch amid", []api.Copy{ended(9, 7, many...), ended(9, 8, few...), ended(9, 6, many...)}, few},
		{"one of the last epoch", []api.Copy{ended(api.MaxNum, api.MaxNum-1, many...), ended(api.MaxNum, api.MaxNum, few...)}, few},
		{"two of one epoch, the first with fewer", []api.Copy{ended(9, 8, few...), ended(9, 8, many...)}, few},
		{"two of one epoch, the first with more", []api.Copy{ended(9, 8, many...), ended(9, 8, few...)}, many},
		{"two of one epoch behind one of another", []api.Copy{ended(9, 7, "z"), ended(9, 8, few...), ended(9, 8, many...)}, few},
		{"two of one epoch behind one that was not ended", []api.Copy{closed(9, many...), ended(9, 8), ended(9, 8, many...)}, nil},
		{"one of a lesser Epoch, but ended later", []api.Copy{ended(20, 3, many...), ended(8, 8, few...)}, few},
		{"all alike", []api.Copy{ended(9, 8, few...), ended(9, 8, few...), ended(9, 8, few...)}, few},
	} {
		wantChosen(t, c.what, len(c.said), c.said, c.want...)
	}
}

// TestChooseByMost: just most, and one less.
func TestChooseByMost(t *testing.T) {
	for n, most := range map[int]int{1: 1, 2: 2, 3: 2, 4: 3, 5: 3, 6: 4, 7: 4} {
		for some := range n + 1 {
			for _, c := range []api.Copy{closed(2, "a"), ended(2, 2, "a")} {
				said := slices.Repeat([]api.Copy{c}, some)
				if some < most {
					wantNoneChosen(t, "too few", n, said, fault(api.ErrNone, -1))
				} else {
					wantChosen(t, "most", n, said, "a")
				}
			}
		}
	}
}

func TestChooseOfNoNumberOfCopies(t *testing.T) {
	for _, n := range []int{0, -1, api.MaxNodes + 1, math.MinInt, math.MaxInt} {
		for _, some := range []int{0, 1, api.MaxNodes, api.MaxNodes + 1} {
			for _, c := range []api.Copy{closed(2, "a"), open(2), open(-1)} {
				wantNoneChosen(t, "no number of copies", n, slices.Repeat([]api.Copy{c}, some), fault(api.ErrRange, -1))
			}
		}
	}
}

func TestChooseByMoreThanThereAre(t *testing.T) {
	for n := 1; n <= api.MaxNodes; n++ {
		for _, c := range []api.Copy{closed(2, "a"), open(2), open(-1)} {
			for _, some := range []int{n + 1, n + 2, 1000} {
				wantNoneChosen(t, "more than there are", n, slices.Repeat([]api.Copy{c}, some), fault(api.ErrMany, -1))
			}
		}
		wantChosen(t, "as many as there are", n, slices.Repeat([]api.Copy{closed(2, "a")}, n), "a")
	}
}

// TestChooseByWrongCopies: At the copy's number, whatever At Check tells, and also where they are not most.
func TestChooseByWrongCopies(t *testing.T) {
	fine := closed(2, "a")
	for _, w := range wrongCopies() {
		for at := range 3 {
			said := []api.Copy{fine, fine, fine}
			said[at] = w.c
			want := fault(w.want.Code, at)
			wantNoneChosen(t, "a wrong copy", 3, said, want)
			wantNoneChosen(t, "a wrong copy, of too few", 7, said, want)
			for i := at + 1; i < 3; i++ {
				said[i] = open(2, "a")
			}
			wantNoneChosen(t, "a wrong copy ahead of one that is not closed", 3, said, want)
		}
	}
}

func TestChooseByCopiesThatAreNotClosed(t *testing.T) {
	fine := closed(2, "a")
	for _, o := range []api.Copy{{}, open(1, "a"), open(api.MaxNum, texts(api.MaxRecs)...)} {
		for at := range 3 {
			said := []api.Copy{fine, fine, fine}
			said[at] = o
			want := fault(api.ErrState, at)
			wantNoneChosen(t, "one that is not closed", 3, said, want)
			wantNoneChosen(t, "one that is not closed, of too few", 7, said, want)
			for _, w := range wrongCopies() {
				for i := at + 1; i < 3; i++ {
					said[i] = w.c
				}
				wantNoneChosen(t, "one that is not closed ahead of a wrong one", 3, said, want)
			}
		}
	}
	wantNoneChosen(t, "two that are not closed", 3, []api.Copy{fine, open(2), open(2)}, fault(api.ErrState, 1))
}
