package assign_test

import (
	"testing"

	"tabulary/api"
)

// inState: the board of all states, of which the slot at a place is in this one, in its turn, at the host 3 if it is not off.
func inState(at, state int) api.Board {
	return withSlot(four(), at, func(s *api.Slot) { s.State, s.Host = state, min(state, 1)*3 })
}

// noSlots: IDs that no slot of the board of all states has.
func noSlots() []int { return append(outside(), 0, 1, 6, 7, 12, 77, api.MaxNum) }

// eachPlace calls for each slot of the board of all states, in each state.
func eachPlace(see func(at, state int, b api.Board, s api.Slot)) {
	for at := range 4 {
		for state := range 4 {
			b := inState(at, state)
			see(at, state, b, b.Slots[at])
		}
	}
}

func TestASlotIsGiven(t *testing.T) {
	for _, host := range []int{7, 3} {
		eachPlace(func(at, state int, b api.Board, s api.Slot) {
			if state != 0 {
				wantNotOfKind(t, "a slot that is not off", b, give(s.Part.ID, host), fault(api.ErrState, -1))
				b.Turn = api.MaxNum
				wantNotOfKind(t, "a slot that is not off, at the greatest Turn", b, give(s.Part.ID, host), fault(api.ErrState, -1))
				return
			}
			given := func(turn int) func(b *api.Board) {
				return func(b *api.Board) {
					b.Turn = turn
					b.Slots[at].State, b.Slots[at].Host, b.Slots[at].Turn = 1, host, turn
				}
			}
			wantOfKind(t, "a slot that is off", b, give(s.Part.ID, host), given(7))
			b.Slots[at].Turn = 0
			wantOfKind(t, "a slot that was never given", b, give(s.Part.ID, host), given(7))
			b.Turn = 99
			wantOfKind(t, "a slot, at a later Turn", b, give(s.Part.ID, host), given(100))
			b.Turn = api.MaxNum - 1
			wantOfKind(t, "a slot, in the greatest Turn", b, give(s.Part.ID, host), given(api.MaxNum))
			b.Turn = api.MaxNum
			wantNotOfKind(t, "a slot, behind the greatest Turn", b, give(s.Part.ID, host), fault(api.ErrMuch, 0))
		})
	}
	wantOfKind(t, "the first Turn", mustDo(t, boardOf(nil, manySlots(1)), comes(5)), give(1, 5), func(b *api.Board) {
		b.Turn, b.Slots[0] = 1, slotOf("", "", 1, 1, 5, 1)
	})
}

func TestNoSlotIsGiven(t *testing.T) {
	for _, turn := range []int{6, api.MaxNum} {
		b := but(four(), func(b *api.Board) { b.Turn = turn })
		for _, id := range noSlots() {
			for _, host := range []int{7, 9, 0, 77} {
				wantNotOfKind(t, "no slot", b, give(id, host), fault(api.ErrNone, -1))
			}
		}
		for _, host := range append(outside(), 0, 1, 9, 11, 77, api.MaxNum) {
			for _, s := range b.Slots {
				wantNotOfKind(t, "a slot to no host, or to one that is not Alive", b, give(s.Part.ID, host), fault(api.ErrNone, -2))
			}
		}
	}
	wantNotOfKind(t, "a slot where there are no hosts", boardOf(nil, manySlots(2)), give(1, 1), fault(api.ErrNone, -2))
}

func TestASlotHasOpened(t *testing.T) {
	eachPlace(func(at, state int, b api.Board, s api.Slot) {
		o := opened(s.Part.ID, s.Host, s.Turn)
		if state == 1 {
			wantOfKind(t, "a slot that is opening", b, o, func(b *api.Board) { b.Slots[at].State = 2 })
			return
		}
		wantNotOfKind(t, "a slot that is not opening", b, o, fault(api.ErrState, -1))
	})
}

func TestASlotHasClosed(t *testing.T) {
	eachPlace(func(at, state int, b api.Board, s api.Slot) {
		o := closed(s.Part.ID, s.Host, s.Turn)
		if state == 3 {
			wantOfKind(t, "a slot that is closing", b, o, func(b *api.Board) { b.Slots[at].State, b.Slots[at].Host = 0, 0 })
			return
		}
		wantNotOfKind(t, "a slot that is not closing", b, o, fault(api.ErrState, -1))
	})
}

// TestLateAnswers: an order 4 or 6 of another Host, or of another Turn, is stale, in whatever state the slot is.
func TestLateAnswers(t *testing.T) {
	for _, order := range []func(id, host, turn int) api.Order{opened, closed} {
		eachPlace(func(at, state int, b api.Board, s api.Slot) {
			for _, host := range append(outside(), 0, 3, 7, 9, 77) {
				for _, turn := range append(outside(), 0, s.Turn-1, s.Turn, s.Turn+1, b.Turn, b.Turn+1) {
					if host != s.Host || turn != s.Turn {
						wantNotOfKind(t, "another Host or Turn", b, order(s.Part.ID, host, turn), fault(api.ErrStale, -1))
					}
				}
			}
			for _, id := range noSlots() {
				wantNotOfKind(t, "no slot", b, order(id, s.Host, s.Turn), fault(api.ErrNone, -1))
				wantNotOfKind(t, "no slot, at no host", b, order(id, 0, 0), fault(api.ErrNone, -1))
			}
		})
	}
}

func TestASlotCloses(t *testing.T) {
	eachPlace(func(at, state int, b api.Board, s api.Slot) {
		o := closes(s.Part.ID)
		if state == 2 {
			wantOfKind(t, "a slot that is open", b, o, func(b *api.Board) { b.Slots[at].State = 3 })
			return
		}
		wantNotOfKind(t, "a slot that is not open", b, o, fault(api.ErrState, -1))
	})
	for _, id := range noSlots() {
		wantNotOfKind(t, "no slot", four(), closes(id), fault(api.ErrNone, -1))
	}
}

// TestASlotGoesAround: from off to off, and to another host in another Turn; what the first one says then is stale.
func TestASlotGoesAround(t *testing.T) {
	b := mustDo(t, four(), give(11, 7), opened(11, 7, 7), closes(11), closed(11, 7, 7))
	want := but(four(), func(b *api.Board) { b.Turn, b.Slots[0].Turn = 7, 7 })
	wantBoard(t, "a slot that went around", b, api.Fault{}, want)
	wantNotOfKind(t, "that it has closed, once more", b, closed(11, 7, 7), fault(api.ErrStale, -1))
	wantNotOfKind(t, "that it has closed, of no host", b, closed(11, 0, 7), fault(api.ErrState, -1))
	b = mustDo(t, b, give(11, 3))
	wantNotOfKind(t, "that it has opened at the first host", b, opened(11, 7, 7), fault(api.ErrStale, -1))
	wantNotOfKind(t, "that it has opened in the first Turn", b, opened(11, 3, 7), fault(api.ErrStale, -1))
	wantNotOfKind(t, "that the first host has it open in the other Turn", b, opened(11, 7, 8), fault(api.ErrStale, -1))
	b = mustDo(t, b, opened(11, 3, 8), isLost(3), comes(3), give(11, 3))
	wantNotOfKind(t, "that it has opened, from ahead of the loss", b, opened(11, 3, 8), fault(api.ErrStale, -1))
	b = mustDo(t, b, opened(11, 3, 9))
	want.Turn, want.Hosts[1], want.Slots[0], want.Slots[2] = 9, hostOf(3, 2, true), slotOf("", "c", 11, 2, 3, 9), slotOf("m", "t", 8, 0, 0, 3)
	wantBoard(t, "a slot that is given anew", b, api.Fault{}, want)
}
