package assign_test

import (
	"slices"
	"testing"

	"tabulary/api"
)

// replaced: a change by which slots stand in the stead of those from the number from on, ahead of to, and Next is another one.
func replaced(from, to, next int, l ...api.Slot) func(b *api.Board) {
	return func(b *api.Board) {
		b.Slots = slices.Concat(b.Slots[:from], l, b.Slots[to:])
		b.Next = next
	}
}

// fresh: a slot that was never given.
func fresh(from, to string, id int) api.Slot { return slotOf(from, to, id, 0, 0, 0) }

func TestASlotIsSplit(t *testing.T) {
	wantOfKind(t, "the first slot", four(), split(11, "b"), replaced(0, 1, 14, fresh("", "b", 12), fresh("b", "c", 13)))
	wantOfKind(t, "the one slot", boardOf(nil, manySlots(1)), split(1, "m"), replaced(0, 1, 4, fresh("", "m", 2), fresh("m", "", 3)))
	wantOfKind(t, "the second slot", inState(1, 0), split(4, "d"), replaced(1, 2, 14, fresh("c", "d", 12), fresh("d", "m", 13)))
	wantOfKind(t, "the last slot", inState(3, 0), split(5, "z"), replaced(3, 4, 14, fresh("t", "z", 12), fresh("z", "", 13)))
	far := but(four(), func(b *api.Board) { b.Next = 500 })
	wantOfKind(t, "a slot, with a greater Next", far, split(11, "b"), replaced(0, 1, 502, fresh("", "b", 500), fresh("b", "c", 501)))
}

func TestASlotIsSplitAtRows(t *testing.T) {
	b := inState(1, 0)
	for _, row := range []string{"c\x00", "c" + x(39), "d", "lzzz", "l\xff"} {
		wantOfKind(t, "a row within it", b, split(4, row), replaced(1, 2, 14, fresh("c", row, 12), fresh(row, "m", 13)))
	}
	for _, row := range []string{"c", "m", "", "b", "b\xff", "m\x00", "n", x(40)} {
		wantNotOfKind(t, "its first row, its end, or one beyond", b, split(4, row), fault(api.ErrForm, -2))
	}
	for _, row := range []string{"c" + x(40), x(41), x(1 << 20)} {
		wantNotOfKind(t, "a row that is too long", b, split(4, row), fault(api.ErrSize, -2))
	}
	wantNotOfKind(t, "all rows, at the first one", boardOf(nil, manySlots(1)), split(1, ""), fault(api.ErrForm, -2))
	wantOfKind(t, "all rows, behind the first one", boardOf(nil, manySlots(1)), split(1, "\x00"), replaced(0, 1, 4, fresh("", "\x00", 2), fresh("\x00", "", 3)))
	last := inState(3, 0)
	wantNotOfKind(t, "the last slot's first row", last, split(5, "t"), fault(api.ErrForm, -2))
	wantNotOfKind(t, "a row ahead of the last slot", last, split(5, "s"), fault(api.ErrForm, -2))
}

func TestNoSlotIsSplit(t *testing.T) {
	for _, id := range noSlots() {
		for _, row := range []string{"d", "", x(41)} {
			wantNotOfKind(t, "no slot", four(), split(id, row), fault(api.ErrNone, -1))
		}
	}
	eachPlace(func(at, state int, b api.Board, s api.Slot) {
		if state == 0 {
			return
		}
		b.Next = api.MaxNum
		for _, row := range []string{s.Part.From + "a", s.Part.From, "", x(41)} {
			wantNotOfKind(t, "a slot that is not off", b, split(s.Part.ID, row), fault(api.ErrState, -1))
		}
	})
}

// TestTheMostAreSplit: that there are as many as may be is told behind the row's faults, and ahead of numbers that are too great.
func TestTheMostAreSplit(t *testing.T) {
	for _, next := range []int{201, 500, api.MaxNum - 1, api.MaxNum} {
		b := boardOf(nil, manySlots(api.MaxParts))
		b.Next = next
		for _, at := range []int{0, 1, 100, 199} {
			p := b.Slots[at].Part
			wantNotOfKind(t, "one of the most", b, split(p.ID, p.From+"\x00"), fault(api.ErrMany, -1))
			wantNotOfKind(t, "one of the most, at a row that is too long", b, split(p.ID, p.From+x(40)+"x"), fault(api.ErrSize, -2))
			wantNotOfKind(t, "one of the most, at its first row", b, split(p.ID, p.From), fault(api.ErrForm, -2))
			wantNotOfKind(t, "one of the most, at its end", b, split(p.ID, p.To), fault(api.ErrForm, -2))
		}
	}
	fewer := boardOf(nil, manySlots(api.MaxParts-1))
	for _, at := range []int{0, 1, 100, 198} {
		p := fewer.Slots[at].Part
		row := p.From + "\x00"
		wantOfKind(t, "one of one less than the most", fewer, split(p.ID, row), replaced(at, at+1, 202, fresh(p.From, row, 200), fresh(row, p.To, 201)))
	}
}

func TestSplitNumbers(t *testing.T) {
	b := but(four(), func(b *api.Board) { b.Next = api.MaxNum - 2 })
	wantOfKind(t, "the last two numbers", b, split(11, "b"), replaced(0, 1, api.MaxNum, fresh("", "b", api.MaxNum-2), fresh("b", "c", api.MaxNum-1)))
	for _, next := range []int{api.MaxNum - 1, api.MaxNum} {
		b.Next = next
		wantNotOfKind(t, "numbers that are too great", b, split(11, "b"), fault(api.ErrMuch, 0))
		wantNotOfKind(t, "numbers that are too great, at a row that is too long", b, split(11, x(41)), fault(api.ErrSize, -2))
		wantNotOfKind(t, "numbers that are too great, at a slot's end", b, split(11, "c"), fault(api.ErrForm, -2))
		wantNotOfKind(t, "numbers that are too great, of no slot", b, split(77, "b"), fault(api.ErrNone, -1))
	}
}

// offAt: the board of all states, of which two slots side by side are off.
func offAt(at int) api.Board {
	return withSlot(inState(at, 0), at+1, func(s *api.Slot) { s.State, s.Host = 0, 0 })
}

func TestSlotsAreJoined(t *testing.T) {
	wantOfKind(t, "the first two", offAt(0), join(11), replaced(0, 2, 13, fresh("", "m", 12)))
	wantOfKind(t, "two in the middle", offAt(1), join(4), replaced(1, 3, 13, fresh("c", "t", 12)))
	wantOfKind(t, "the last two", offAt(2), join(8), replaced(2, 4, 13, fresh("m", "", 12)))
	wantOfKind(t, "all that there are", boardOf(nil, manySlots(2)), join(1), replaced(0, 2, 4, fresh("", "", 3)))
	full := boardOf(nil, manySlots(api.MaxParts))
	for _, at := range []int{0, 1, 100, 198} {
		left, right := full.Slots[at].Part, full.Slots[at+1].Part
		wantOfKind(t, "two of the most", full, join(left.ID), replaced(at, at+2, 202, fresh(left.From, right.To, 201)))
	}
}

func TestNoSlotsAreJoined(t *testing.T) {
	for _, id := range noSlots() {
		wantNotOfKind(t, "no slot", four(), join(id), fault(api.ErrNone, -1))
	}
	wantNotOfKind(t, "the one slot", boardOf(nil, manySlots(1)), join(1), fault(api.ErrNone, -1))
	for state := range 4 {
		wantNotOfKind(t, "the last slot, whatever its state is", inState(3, state), join(5), fault(api.ErrNone, -1))
		for at := range 3 {
			if state == 0 {
				continue
			}
			b := withSlot(offAt(at), at, func(s *api.Slot) { s.State, s.Host = state, 7 })
			wantNotOfKind(t, "one that is not off, and one that is", b, join(b.Slots[at].Part.ID), fault(api.ErrState, -1))
			b = withSlot(offAt(at), at+1, func(s *api.Slot) { s.State, s.Host = state, 7 })
			wantNotOfKind(t, "one that is off, and one that is not", b, join(b.Slots[at].Part.ID), fault(api.ErrState, -1))
			b.Next = api.MaxNum
			wantNotOfKind(t, "the same, at the greatest Next", b, join(b.Slots[at].Part.ID), fault(api.ErrState, -1))
		}
	}
}

func TestJoinNumbers(t *testing.T) {
	for at := range 3 {
		b := offAt(at)
		id := b.Slots[at].Part.ID
		from, to := b.Slots[at].Part.From, b.Slots[at+1].Part.To
		b.Next = api.MaxNum - 1
		wantOfKind(t, "the last number", b, join(id), replaced(at, at+2, api.MaxNum, fresh(from, to, api.MaxNum-1)))
		b.Next = api.MaxNum
		wantNotOfKind(t, "a number that is too great", b, join(id), fault(api.ErrMuch, 0))
		wantNotOfKind(t, "a number that is too great, of no slot", b, join(77), fault(api.ErrNone, -1))
		wantNotOfKind(t, "a number that is too great, of the last slot", b, join(5), fault(api.ErrNone, -1))
	}
}

// TestSplitAndJoinedAgain: its rows are as they were; its number is a new one.
func TestSplitAndJoinedAgain(t *testing.T) {
	b := mustDo(t, four(), split(11, "a"), split(13, "b"), join(12), join(16))
	wantBoard(t, "what is split and joined again", b, api.Fault{}, but(four(), replaced(0, 1, 18, fresh("", "c", 17))))
	wantNotOfKind(t, "what it was", b, give(11, 7), fault(api.ErrNone, -1))
}
