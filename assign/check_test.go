package assign_test

import (
	"math"
	"slices"
	"strconv"
	"testing"

	"tabulary/api"
	"tabulary/assign"
)

// wantOfAll: each call of a board tells this fault, or none, whatever the order is.
func wantOfAll(t *testing.T, what string, b api.Board, want api.Fault) {
	t.Helper()
	wantFault(t, "Check of "+what, assign.Check(b), want)
	if want == (api.Fault{}) {
		return
	}
	for _, o := range []api.Order{comes(77), isLost(7), give(11, 7), opened(4, 7, 6), closes(8), closed(5, 7, 1), split(11, "a"), join(11), {Kind: 9}, {}} {
		wantRefused(t, what, b, o, want)
	}
	due, f := assign.Due(b)
	wantFault(t, "Due of "+what, f, want)
	if len(due) > 0 {
		t.Errorf("Due of %s: %s beside a fault", what, told(due))
	}
}

func wantFine(t *testing.T, what string, b api.Board) {
	t.Helper()
	wantFault(t, "Check of "+what, assign.Check(b), api.Fault{})
}

func TestNew(t *testing.T) {
	want := api.Board{Slots: slots{slotOf("", "", 1, 0, 0, 0)}, Turn: 0, Next: 2}
	wantBoard(t, "New", assign.New(), api.Fault{}, want)
}

func TestCheckOfWhatIsFine(t *testing.T) {
	wantFine(t, "a slot in each state", four())
	wantFine(t, "no hosts and one slot", boardOf(nil, manySlots(1)))
	wantFine(t, "as much as there may be", boardOf(manyHosts(api.MaxHosts), manySlots(api.MaxParts)))
	wantFine(t, "hosts that are not Alive", boardOf(hosts{hostOf(2, 1, false), hostOf(1, 5, false)}, manySlots(2)))
}

func TestCheckOfTooManyHosts(t *testing.T) {
	wantFine(t, "MaxHosts hosts", boardOf(manyHosts(api.MaxHosts), manySlots(1)))
	for _, n := range []int{api.MaxHosts + 1, api.MaxHosts + 2, 5000} {
		wantOfAll(t, "too many hosts", boardOf(manyHosts(n), manySlots(1)), fault(api.ErrMany, -1))
		wantOfAll(t, "too many hosts, all of which are wrong, and all else", boardOf(make(hosts, n), nil), fault(api.ErrMany, -1))
	}
}

func TestCheckOfHosts(t *testing.T) {
	for at := range 3 {
		for _, n := range append(outside(), 0) {
			what := "a host's number " + strconv.Itoa(n)
			wantOfAll(t, what+" as its ID", but(four(), func(b *api.Board) { b.Hosts[at].ID = n }), fault(api.ErrRange, at))
			wantOfAll(t, what+" as its Epoch", but(four(), func(b *api.Board) { b.Hosts[at].Epoch = n }), fault(api.ErrRange, at))
			wantOfAll(t, what+" as both", but(four(), func(b *api.Board) { b.Hosts[at].ID, b.Hosts[at].Epoch = n, n }), fault(api.ErrRange, at))
		}
		for _, n := range []int{1, api.MaxNum} {
			wantFine(t, "an Epoch", but(four(), func(b *api.Board) { b.Hosts[at].Epoch = n }))
			wantFine(t, "an ID", boardOf(hosts{hostOf(5, 1, false), hostOf(n, 1, true)}, manySlots(1)))
		}
	}
}

func TestCheckOfHostsTwice(t *testing.T) {
	for at := 1; at < 3; at++ {
		for ahead := range at {
			b := but(four(), func(b *api.Board) { b.Hosts[at].ID = b.Hosts[ahead].ID })
			wantOfAll(t, "two hosts of one ID", b, fault(api.ErrTwice, at))
			b.Hosts[at].Epoch = 0
			wantOfAll(t, "two hosts of one ID, and a wrong Epoch", b, fault(api.ErrRange, at))
			b.Hosts[ahead].Epoch = api.MaxNum + 1
			wantOfAll(t, "a wrong Epoch ahead", b, fault(api.ErrRange, ahead))
		}
	}
	l := manyHosts(api.MaxHosts)
	l[19] = hostOf(1, 1, false)
	wantOfAll(t, "the first ID at the last of the most", boardOf(l, manySlots(1)), fault(api.ErrTwice, 19))
	for _, alive := range []bool{true, false} {
		wantOfAll(t, "two hosts of one ID, whichever is Alive", boardOf(hosts{hostOf(4, 1, !alive), hostOf(4, 1, alive)}, manySlots(1)), fault(api.ErrTwice, 1))
		wantOfAll(t, "two hosts of one ID and Epoch", boardOf(hosts{hostOf(4, 1, alive), hostOf(5, 1, alive), hostOf(4, 1, alive)}, manySlots(1)), fault(api.ErrTwice, 2))
	}
	wantOfAll(t, "three hosts of one ID, ahead of a wrong one", boardOf(hosts{hostOf(1, 1, true), hostOf(1, 1, true), hostOf(1, 1, true), {}}, manySlots(1)), fault(api.ErrTwice, 1))
}

func TestCheckOfTheBoardsNumbers(t *testing.T) {
	for _, n := range outside() {
		wantOfAll(t, "a wrong Turn", but(four(), func(b *api.Board) { b.Turn = n }), fault(api.ErrRange, -2))
		wantOfAll(t, "a wrong Turn of no slots", api.Board{Turn: n, Next: 2}, fault(api.ErrRange, -2))
	}
	for _, n := range append(outside(), 0) {
		wantOfAll(t, "a wrong Next", but(four(), func(b *api.Board) { b.Next = n }), fault(api.ErrRange, -2))
		wantOfAll(t, "a wrong Next and a wrong Turn", but(four(), func(b *api.Board) { b.Turn, b.Next = -1, n }), fault(api.ErrRange, -2))
	}
	for _, n := range []int{6, 7, api.MaxNum} {
		wantFine(t, "a Turn", but(four(), func(b *api.Board) { b.Turn = n }))
	}
	for _, n := range []int{12, 13, api.MaxNum} {
		wantFine(t, "a Next", but(four(), func(b *api.Board) { b.Next = n }))
	}
	wantFine(t, "a Turn of 0", boardOf(nil, manySlots(1)))
	wantOfAll(t, "a Turn of 0, in which slots were given", but(four(), func(b *api.Board) { b.Turn = 0 }), fault(api.ErrRange, -2001))
	// No slot's ID is below it, so that no board has it; but of itself it may be.
	wantOfAll(t, "a Next of 1", but(four(), func(b *api.Board) { b.Next = 1 }), fault(api.ErrRange, -2001))
	wantOfAll(t, "a Next of 1, of no slots", api.Board{Next: 1}, fault(api.ErrNone, -1001))
}

func TestCheckOfParts(t *testing.T) {
	part := func(at int, change func(p *api.Part)) api.Board {
		return but(four(), func(b *api.Board) { change(&b.Slots[at].Part) })
	}
	wantOfAll(t, "no slots", but(four(), func(b *api.Board) { b.Slots = nil }), fault(api.ErrNone, -1001))
	wantOfAll(t, "a zero board but for its Next", api.Board{Next: 2}, fault(api.ErrNone, -1001))
	wantOfAll(t, "too many slots", boardOf(nil, manySlots(api.MaxParts+1)), fault(api.ErrMany, -1001))
	wantOfAll(t, "too many slots, all of which are wrong", api.Board{Slots: make(slots, 5000), Next: 2}, fault(api.ErrMany, -1001))
	for at := range 4 {
		wantOfAll(t, "a From that is too long", part(at, func(p *api.Part) { p.From = x(41) }), fault(api.ErrSize, at-1000))
		wantOfAll(t, "a To that is too long", part(at, func(p *api.Part) { p.To = x(41) }), fault(api.ErrSize, at-1000))
		wantOfAll(t, "rows that others have", part(at, func(p *api.Part) { p.From = "b" }), fault(api.ErrForm, at-1000))
		wantOfAll(t, "no rows", part(at, func(p *api.Part) { p.To = p.From }), fault(api.ErrForm, at-1000))
		for _, n := range outside() {
			wantOfAll(t, "an ID that is none", part(at, func(p *api.Part) { p.ID = n }), fault(api.ErrRange, at-1000))
		}
		for ahead := range at {
			wantOfAll(t, "an ID that one ahead has", part(at, func(p *api.Part) { p.ID = four().Slots[ahead].Part.ID }), fault(api.ErrTwice, at-1000))
		}
	}
	wantOfAll(t, "a last slot with an end", part(3, func(p *api.Part) { p.To = "u" }), fault(api.ErrForm, -997))
	wantOfAll(t, "one slot alone of several", but(four(), func(b *api.Board) { b.Slots = b.Slots[1:2] }), fault(api.ErrForm, -1000))
	last := boardOf(nil, manySlots(api.MaxParts))
	last.Slots[199].Part.From = "a"
	wantOfAll(t, "the last of the most", last, fault(api.ErrForm, -801))
}

// eachSlot: of each slot of a board of all states, with a change, Check tells this code at it; whatever is wrong with those behind it.
func eachSlot(t *testing.T, what string, code int, change func(s *api.Slot)) {
	t.Helper()
	for at := range 4 {
		oneSlot(t, what, at, code, change)
	}
}

// oneSlot: the same of one slot.
func oneSlot(t *testing.T, what string, at, code int, change func(s *api.Slot)) {
	t.Helper()
	b := withSlot(four(), at, change)
	wantOfAll(t, what, b, fault(code, -2001-at))
	for behind := at + 1; behind < 4; behind++ {
		b.Slots[behind].State, b.Slots[behind].Host = -1, 99
	}
	wantOfAll(t, what+", ahead of others", b, fault(code, -2001-at))
}

func TestCheckOfStates(t *testing.T) {
	for _, state := range []int{-1, 4, 5, math.MinInt, math.MaxInt} {
		eachSlot(t, "a wrong State", api.ErrRange, func(s *api.Slot) { s.State = state })
		eachSlot(t, "a wrong State, without a Host", api.ErrRange, func(s *api.Slot) { s.State, s.Host = state, 0 })
		eachSlot(t, "a wrong State, at a host that is not there", api.ErrRange, func(s *api.Slot) { s.State, s.Host = state, 77 })
	}
	for at := range 4 {
		for state := 1; state <= 3; state++ {
			wantFine(t, "a State", withSlot(four(), at, func(s *api.Slot) { s.State, s.Host = state, 3 }))
		}
		wantFine(t, "a slot that is off", withSlot(four(), at, func(s *api.Slot) { s.State, s.Host = 0, 0 }))
	}
}

func TestCheckOfTurns(t *testing.T) {
	for _, turn := range append(outside(), 7, 8) {
		eachSlot(t, "a wrong Turn", api.ErrRange, func(s *api.Slot) { s.Turn = turn })
		eachSlot(t, "a wrong Turn, at a host that is not there", api.ErrRange, func(s *api.Slot) { s.Turn, s.Host = turn, 77 })
	}
	for at := range 4 {
		wantFine(t, "the board's Turn and no other one", but(four(), func(b *api.Board) { b.Turn, b.Slots[at].Turn = 9, 9 }))
	}
	for state := 1; state <= 3; state++ {
		eachSlot(t, "no Turn", api.ErrRange, func(s *api.Slot) { s.State, s.Host, s.Turn = state, 7, 0 })
		// That there is no such host is told ahead of it.
		eachSlot(t, "no Turn, at a host that is not there", api.ErrNone, func(s *api.Slot) { s.State, s.Host, s.Turn = state, 77, 0 })
	}
	eachSlot(t, "no Turn, off, with a Host", api.ErrState, func(s *api.Slot) { s.State, s.Host, s.Turn = 0, 7, 0 })
	wantFine(t, "no Turn, off", withSlot(four(), 0, func(s *api.Slot) { s.Turn = 0 }))
}

func TestCheckOfIDs(t *testing.T) {
	for _, id := range []int{0, 12, 13, api.MaxNum} {
		eachSlot(t, "a wrong ID", api.ErrRange, func(s *api.Slot) { s.Part.ID = id })
		eachSlot(t, "a wrong ID, at a host that is not there", api.ErrRange, func(s *api.Slot) { s.Part.ID, s.Host = id, 77 })
	}
	for at := range 4 {
		for _, id := range []int{1, 2, 11} {
			wantFine(t, "an ID", but(four(), func(b *api.Board) { b.Slots[0].Part.ID, b.Slots[at].Part.ID = 3, id }))
		}
		wantFine(t, "the greatest ID", but(four(), func(b *api.Board) { b.Slots[at].Part.ID, b.Next = api.MaxNum-1, api.MaxNum }))
		wantOfAll(t, "a greater one", but(four(), func(b *api.Board) { b.Slots[at].Part.ID, b.Next = api.MaxNum, api.MaxNum }), fault(api.ErrRange, -2001-at))
	}
}

func TestCheckOfSlotsAtHosts(t *testing.T) {
	for _, id := range []int{7, 3, 9, 77, 1, -1, math.MinInt, math.MaxInt} {
		eachSlot(t, "off, with a Host", api.ErrState, func(s *api.Slot) { s.State, s.Host = 0, id })
	}
	for _, id := range []int{0, 9, 77, 1, -1, math.MinInt, math.MaxInt} {
		for state := 1; state <= 3; state++ {
			eachSlot(t, "at a host that is not there, or not Alive", api.ErrNone, func(s *api.Slot) { s.State, s.Host = state, id })
		}
	}
	wantOfAll(t, "opening where there are no hosts", but(four(), func(b *api.Board) { b.Hosts = nil }), fault(api.ErrNone, -2002))
	wantOfAll(t, "open at one that is not Alive any more", but(four(), func(b *api.Board) { b.Hosts[1].Alive = false }), fault(api.ErrNone, -2003))
}

func TestCheckOfTurnsTwice(t *testing.T) {
	for at := 1; at < 4; at++ {
		for ahead := range at {
			turn := four().Slots[ahead].Turn
			oneSlot(t, "the Turn of one ahead", at, api.ErrTwice, func(s *api.Slot) { s.Turn = turn })
			oneSlot(t, "the Turn of one ahead, off", at, api.ErrTwice, func(s *api.Slot) { s.State, s.Host, s.Turn = 0, 0, turn })
			oneSlot(t, "the Turn of one ahead, at a host that is not there", at, api.ErrNone, func(s *api.Slot) { s.State, s.Host, s.Turn = 1, 77, turn })
			oneSlot(t, "the Turn of one ahead, off, with a Host", at, api.ErrState, func(s *api.Slot) { s.State, s.Host, s.Turn = 0, 7, turn })
		}
	}
	wantFine(t, "several that are off, in no Turn", boardOf(nil, manySlots(9)))
	none := but(boardOf(nil, manySlots(3)), func(b *api.Board) { b.Turn, b.Slots[0].Turn, b.Slots[2].Turn = 5, 5, 5 })
	wantOfAll(t, "two of one Turn, with one of none between", none, fault(api.ErrTwice, -2003))
	last := but(boardOf(nil, manySlots(api.MaxParts)), func(b *api.Board) { b.Turn, b.Slots[0].Turn, b.Slots[199].Turn = 5, 5, 5 })
	wantOfAll(t, "the first Turn at the last of the most", last, fault(api.ErrTwice, -2200))
}

// TestCheckTellsTheFirstFault: of several that do not touch one another, each is told ahead of those behind it.
func TestCheckTellsTheFirstFault(t *testing.T) {
	wrong := []struct {
		change func(b *api.Board)
		f      api.Fault
	}{
		{func(b *api.Board) { b.Hosts = append(b.Hosts, manyHosts(20)...) }, fault(api.ErrMany, -1)},
		{func(b *api.Board) { b.Hosts[0].Epoch = 0 }, fault(api.ErrRange, 0)},
		{func(b *api.Board) { b.Hosts[1].ID = b.Hosts[0].ID }, fault(api.ErrTwice, 1)},
		{func(b *api.Board) { b.Hosts[2].ID = 0 }, fault(api.ErrRange, 2)},
		{func(b *api.Board) { b.Turn = -1 }, fault(api.ErrRange, -2)},
		{func(b *api.Board) { b.Next = 0 }, fault(api.ErrRange, -2)},
		{func(b *api.Board) { b.Slots = append(slices.Clone(b.Slots), make(slots, 200)...) }, fault(api.ErrMany, -1001)},
		{func(b *api.Board) { b.Slots[0].Part.From = "a" }, fault(api.ErrForm, -1000)},
		{func(b *api.Board) { b.Slots[1].Part.ID = b.Slots[0].Part.ID }, fault(api.ErrTwice, -999)},
		{func(b *api.Board) { b.Slots[3].Part.To = x(41) }, fault(api.ErrSize, -997)},
		{func(b *api.Board) { b.Slots[0].Host = 7 }, fault(api.ErrState, -2001)},
		{func(b *api.Board) { b.Slots[1].Turn = 2 }, fault(api.ErrTwice, -2002)},
		{func(b *api.Board) { b.Slots[2].State = 4 }, fault(api.ErrRange, -2003)},
		{func(b *api.Board) { b.Slots[3].Host = 9 }, fault(api.ErrNone, -2004)},
	}
	for i, a := range wrong {
		wantOfAll(t, "one fault", but(four(), a.change), a.f)
		for _, b := range wrong[i+1:] {
			wantOfAll(t, "two faults", but(but(four(), b.change), a.change), a.f)
		}
		all := four()
		for _, b := range wrong[i:] {
			all = but(all, b.change)
		}
		wantOfAll(t, "all faults from one on", all, a.f)
	}
}
