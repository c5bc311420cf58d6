package assign_test

import (
	"slices"
	"testing"

	"tabulary/api"
	"tabulary/assign"
)

// wantPlayed: orders lead to just this board, and of each is said just this.
func wantPlayed(t *testing.T, what string, all orders, want api.Board, said ...api.Fault) {
	t.Helper()
	got, told, f := assign.Play(all)
	wantBoard(t, "Play of "+what, got, f, want)
	if !slices.Equal(told, said) {
		t.Errorf("Play of %s: said is %v, want %v", what, told, said)
	}
}

func wantNotPlayed(t *testing.T, what string, all orders) {
	t.Helper()
	got, said, f := assign.Play(all)
	wantFault(t, "Play of "+what, f, fault(api.ErrMany, -1))
	if !isZero(got) || len(said) > 0 {
		t.Errorf("Play of %s: %s and %d faults beside a fault", what, told(got), len(said))
	}
}

// TestExamples: the chapter's own.
func TestExamples(t *testing.T) {
	b := mustDo(t, assign.New(), comes(7))
	wantDue(t, "New with the host 7", b, give(1, 7))
	wantPlayed(t, "the host 7, which gets the slot 1", orders{comes(7), give(1, 7)}, api.Board{Hosts: hosts{hostOf(7, 1, true)}, Slots: slots{slotOf("", "", 1, 1, 7, 1)}, Turn: 1, Next: 2}, api.Fault{}, api.Fault{})
}

func TestPlayOfNothing(t *testing.T) {
	wantPlayed(t, "no orders", nil, assign.New())
	wantPlayed(t, "an empty list", orders{}, assign.New())
}

// TestPlayOfRefused: what is refused changes nothing, and what stands behind it is done.
func TestPlayOfRefused(t *testing.T) {
	wantPlayed(t, "orders that are all refused", orders{isLost(7), {Kind: 9}, {}, comes(0), give(1, 1), opened(1, 0, 0), closes(1), closed(1, 0, 0), split(1, ""), join(1)}, assign.New(),
		fault(api.ErrNone, -1), fault(api.ErrKind, 0), fault(api.ErrKind, 0), fault(api.ErrRange, -1), fault(api.ErrNone, -2), fault(api.ErrState, -1), fault(api.ErrState, -1), fault(api.ErrState, -1), fault(api.ErrForm, -2), fault(api.ErrNone, -1))
	ok := api.Fault{}
	all := orders{give(1, 7), comes(7), comes(7), split(1, "m"), split(1, "m"), give(2, 7), {Kind: 9}, give(3, 7), opened(2, 7, 2), opened(2, 7, 1), isLost(3), closes(3), closes(2), join(2), closed(2, 7, 1)}
	want := api.Board{Hosts: hosts{hostOf(7, 1, true)}, Slots: slots{slotOf("", "m", 2, 0, 0, 1), slotOf("m", "", 3, 1, 7, 2)}, Turn: 2, Next: 4}
	wantPlayed(t, "orders of which some are refused", all, want,
		fault(api.ErrNone, -2), ok, fault(api.ErrTwice, -1), ok, fault(api.ErrNone, -1), ok, fault(api.ErrKind, 0), ok, fault(api.ErrStale, -1), ok, fault(api.ErrNone, -1), fault(api.ErrState, -1), ok, fault(api.ErrState, -1), ok)
}

func TestPlayOfTheMost(t *testing.T) {
	all := slices.Repeat(orders{comes(7), isLost(7)}, api.MaxOps/2)
	said := make([]api.Fault, api.MaxOps)
	want := but(assign.New(), func(b *api.Board) { b.Hosts = hosts{hostOf(7, api.MaxOps/2, false)} })
	wantPlayed(t, "MaxOps orders", all, want, said...)
	wantNotPlayed(t, "one order more", append(all, comes(7)))
	wantNotPlayed(t, "one order more, which are all refused", make(orders, api.MaxOps+1))
	wantNotPlayed(t, "far too many orders", make(orders, 1<<20))
	for i := range said {
		said[i] = fault(api.ErrKind, 0)
	}
	wantPlayed(t, "MaxOps orders, which are all refused", make(orders, api.MaxOps), assign.New(), said...)
}

// TestPlayOfManySlots: splits up to the most, and one more; then they are all given, by what is due.
func TestPlayOfManySlots(t *testing.T) {
	var all orders
	for i, s := range manySlots(api.MaxParts)[1:] {
		all = append(all, split(1+2*i, s.Part.From))
	}
	b, said, f := assign.Play(append(all, split(399, "z")))
	wantFault(t, "Play of many splits", f, api.Fault{})
	if len(b.Slots) != api.MaxParts || b.Next != 400 || len(said) != 200 || said[199] != fault(api.ErrMany, -1) || said[198] != (api.Fault{}) {
		t.Fatalf("%d slots, Next is %d, said is %v", len(b.Slots), b.Next, said)
	}
	for _, id := range []int{3, 1, 2} {
		all = append(all, comes(id))
		b = mustDo(t, b, comes(id))
	}
	due, f := assign.Due(b)
	wantFault(t, "Due of many slots", f, api.Fault{})
	all = append(all, due...)
	b, _, f = assign.Play(all)
	wantFault(t, "Play of many slots", f, api.Fault{})
	for i, s := range b.Slots {
		if s.State != 1 || s.Host != i%3+1 || s.Turn != i+1 {
			t.Fatalf("the slot %d is %v", i, s)
		}
	}
}
