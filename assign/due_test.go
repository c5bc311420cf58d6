package assign_test

import (
	"slices"
	"testing"

	"tabulary/api"
)

// given: of many slots, the first ones are open at these hosts, in their order.
func given(n int, h hosts, at ...int) api.Board {
	b := boardOf(h, manySlots(n))
	for i, host := range at {
		b.Slots[i].State, b.Slots[i].Host, b.Slots[i].Turn = 2, host, i+1
	}
	b.Turn = len(at)
	return b
}

func TestDueWithoutHosts(t *testing.T) {
	wantDue(t, "New", boardOf(nil, manySlots(1)))
	wantDue(t, "many slots without hosts", boardOf(nil, manySlots(api.MaxParts)))
	wantDue(t, "hosts that are not Alive", boardOf(hosts{hostOf(1, 1, false), hostOf(2, 9, false)}, manySlots(3)))
}

func TestDueOfNothingOff(t *testing.T) {
	two := hosts{hostOf(1, 1, true), hostOf(2, 1, true)}
	wantDue(t, "slots that are all at one host", given(3, two, 1, 1, 1))
	for state := 1; state <= 3; state++ {
		wantDue(t, "one slot that is not off", withSlot(given(1, two, 2), 0, func(s *api.Slot) { s.State = state }))
	}
}

func TestDueOfOneHost(t *testing.T) {
	wantDue(t, "one slot", boardOf(hosts{hostOf(5, 1, true)}, manySlots(1)), give(1, 5))
	wantDue(t, "three slots", boardOf(hosts{hostOf(5, 1, true)}, manySlots(3)), give(1, 5), give(2, 5), give(3, 5))
	wantDue(t, "a slot in each state", mustDo(t, four(), isLost(3)), give(11, 7), give(8, 7))
	wantDue(t, "one host that is Alive of three", boardOf(hosts{hostOf(1, 1, false), hostOf(5, 1, true), hostOf(2, 1, false)}, manySlots(2)), give(1, 5), give(2, 5))
	all := boardOf(hosts{hostOf(5, 1, true)}, manySlots(api.MaxParts))
	var want orders
	for i := range api.MaxParts {
		want = append(want, give(i+1, 5))
	}
	wantDue(t, "the most slots", all, want...)
}

// TestDueOfTheFewest: in whatever state a host's slots are; and those that are given ahead count.
func TestDueOfTheFewest(t *testing.T) {
	// 7 has two, 3 has one.
	wantDue(t, "a slot in each state", four(), give(11, 3))
	three := hosts{hostOf(1, 1, true), hostOf(2, 1, true), hostOf(3, 1, true)}
	wantDue(t, "one that has less", given(4, three, 1, 2), give(3, 3), give(4, 1))
	wantDue(t, "one that has far less", given(9, three, 1, 1, 1, 2, 2, 2), give(7, 3), give(8, 3), give(9, 3))
	wantDue(t, "one more than that", given(10, three, 1, 1, 1, 2, 2, 2), give(7, 3), give(8, 3), give(9, 3), give(10, 1))
	wantDue(t, "the last one that has less", given(5, three, 3, 3, 1, 2), give(5, 1))
	wantDue(t, "the second one that has less", given(5, three, 3, 3, 1, 1), give(5, 2))
	for state := 1; state <= 3; state++ {
		b := withSlot(given(2, three[:2], 1), 0, func(s *api.Slot) { s.State = state })
		wantDue(t, "one without a slot, and one with one that is not off", b, give(2, 2))
	}
	// Slots that went around are off, and count for nobody.
	b := mustDo(t, given(3, three[:2], 1, 1, 2), isLost(1), comes(1), isLost(2), comes(2))
	wantDue(t, "slots that are off again", b, give(1, 1), give(2, 2), give(3, 1))
}

// TestDueOfTheLeastID: of several that have as many; in whatever order they came.
func TestDueOfTheLeastID(t *testing.T) {
	for _, l := range []hosts{
		{hostOf(2, 1, true), hostOf(5, 1, true), hostOf(9, 1, true)},
		{hostOf(9, 1, true), hostOf(5, 3, true), hostOf(2, 1, true)},
		{hostOf(5, 1, true), hostOf(1, 1, false), hostOf(9, 1, true), hostOf(2, 7, true)},
	} {
		wantDue(t, "hosts without slots", boardOf(l, manySlots(5)), give(1, 2), give(2, 5), give(3, 9), give(4, 2), give(5, 5))
		wantDue(t, "hosts with one each", given(5, l, 9, 2, 5), give(4, 2), give(5, 5))
		wantDue(t, "one with one", given(4, l, 2), give(2, 5), give(3, 9), give(4, 2))
		wantDue(t, "another one with one", given(4, l, 5), give(2, 2), give(3, 9), give(4, 2))
	}
	l := manyHosts(api.MaxHosts)
	slices.Reverse(l)
	var want orders
	for i := range api.MaxParts {
		want = append(want, give(i+1, i%20+1))
	}
	wantDue(t, "the most slots and hosts", boardOf(l, manySlots(api.MaxParts)), want...)
}

// TestDueOfSlotsInTheirOrder: by their rows, whatever their IDs and Turns are, also with others between.
func TestDueOfSlotsInTheirOrder(t *testing.T) {
	b := mustDo(t, four(), isLost(7))
	wantDue(t, "slots that were lost", b, give(11, 3), give(4, 3), give(5, 3))
	wantDue(t, "slots that were split", mustDo(t, b, split(4, "d")), give(11, 3), give(12, 3), give(13, 3), give(5, 3))
	wantDue(t, "slots that were lost, with a host that is new", mustDo(t, b, comes(8)), give(11, 8), give(4, 3), give(5, 8))
}

// TestDueAtTheGreatestTurn: it is due, though it can't be done.
func TestDueAtTheGreatestTurn(t *testing.T) {
	b := but(four(), func(b *api.Board) { b.Turn = api.MaxNum })
	want := dueByHand(b)
	if len(want) != 1 || want[0] != give(11, 3) {
		t.Fatalf("due by hand is %v", want)
	}
	wantDueAlone(t, "the greatest Turn", b, want...)
	wantRefused(t, "what is due at the greatest Turn", b, want[0], fault(api.ErrMuch, 0))
}
