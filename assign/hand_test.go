package assign_test

import (
	"slices"
	"testing"

	"tabulary/api"
	"tabulary/assign"
	"tabulary/parts"
)

const most = 1000000000

func isIn(n, from, to int) bool { return from <= n && n <= to }

// so: a fault, and whether it is so.
type so struct {
	is bool
	f  api.Fault
}

// first: of some, the first fault that is so, or none.
func first(all ...so) api.Fault {
	for _, s := range all {
		if s.is {
			return s.f
		}
	}
	return api.Fault{}
}

// hostByHand: the host of an ID, or a zero one.
func hostByHand(b api.Board, id int) api.Host {
	for _, h := range b.Hosts {
		if h.ID == id {
			return h
		}
	}
	return api.Host{}
}

// placeByHand: where the slot of an ID stands, or -1.
func placeByHand(b api.Board, id int) int {
	for i, s := range b.Slots {
		if s.Part.ID == id {
			return i
		}
	}
	return -1
}

// slotByHand: the slot at a place, or one in no state.
func slotByHand(b api.Board, at int) api.Slot {
	if at < 0 || at >= len(b.Slots) {
		return api.Slot{State: -1}
	}
	return b.Slots[at]
}

func partsByHand(b api.Board) []api.Part {
	var out []api.Part
	for _, s := range b.Slots {
		out = append(out, s.Part)
	}
	return out
}

// checkByHand: what Check promises.
func checkByHand(b api.Board) api.Fault {
	all := []so{{len(b.Hosts) > 20, fault(api.ErrMany, -1)}}
	for i, h := range b.Hosts {
		has := func(o api.Host) bool { return o.ID == h.ID }
		all = append(all, so{!isIn(h.ID, 1, most) || !isIn(h.Epoch, 1, most), fault(api.ErrRange, i)}, so{slices.ContainsFunc(b.Hosts[:i], has), fault(api.ErrTwice, i)})
	}
	all = append(all, so{!isIn(b.Turn, 0, most) || !isIn(b.Next, 1, most), fault(api.ErrRange, -2)})
	p := parts.Check(partsByHand(b))
	all = append(all, so{p != api.Fault{}, fault(p.Code, p.At-1000)})
	for i, s := range b.Slots {
		at, isOff := -2000-(i+1), s.State == 0
		has := func(o api.Slot) bool { return o.Turn == s.Turn }
		all = append(all,
			so{!isIn(s.State, 0, 3) || !isIn(s.Turn, 0, b.Turn) || !isIn(s.Part.ID, 1, b.Next-1), fault(api.ErrRange, at)},
			so{isOff && s.Host != 0, fault(api.ErrState, at)},
			so{!isOff && !hostByHand(b, s.Host).Alive, fault(api.ErrNone, at)},
			so{!isOff && s.Turn == 0, fault(api.ErrRange, at)},
			so{s.Turn != 0 && slices.ContainsFunc(b.Slots[:i], has), fault(api.ErrTwice, at)})
	}
	return first(all...)
}

// refusalByHand: what Do promises to tell of an order to a board without a fault.
func refusalByHand(b api.Board, o api.Order) api.Fault {
	h, at := hostByHand(b, o.ID), placeByHand(b, o.ID)
	s, next := slotByHand(b, at), slotByHand(b, at+1)
	isStale := so{s.Host != o.Host || s.Turn != o.Turn, fault(api.ErrStale, -1)}
	noSlot := so{at < 0, fault(api.ErrNone, -1)}
	isNot := func(state int) so { return so{s.State != state, fault(api.ErrState, -1)} }
	isMuch := func(is bool) so { return so{is, fault(api.ErrMuch, 0)} }
	switch o.Kind {
	case 1:
		isFull := len(b.Hosts) == 20 && h.Epoch == 0
		return first(so{!isIn(o.ID, 1, most), fault(api.ErrRange, -1)}, so{h.Alive, fault(api.ErrTwice, -1)}, so{isFull, fault(api.ErrMany, -1)}, isMuch(h.Epoch == most))
	case 2:
		return first(so{!h.Alive, fault(api.ErrNone, -1)})
	case 3:
		return first(noSlot, so{!hostByHand(b, o.Host).Alive, fault(api.ErrNone, -2)}, isNot(0), isMuch(b.Turn == most))
	case 4:
		return first(noSlot, isStale, isNot(1))
	case 5:
		return first(noSlot, isNot(2))
	case 6:
		return first(noSlot, isStale, isNot(3))
	case 7:
		isWithin := o.Row > s.Part.From && (s.Part.To == "" || o.Row < s.Part.To)
		return first(noSlot, isNot(0), so{len(o.Row) > 40, fault(api.ErrSize, -2)}, so{!isWithin, fault(api.ErrForm, -2)}, so{len(b.Slots) >= 200, fault(api.ErrMany, -1)}, isMuch(b.Next+2 > most))
	case 8:
		return first(noSlot, so{next.State < 0, fault(api.ErrNone, -1)}, isNot(0), so{next.State != 0, fault(api.ErrState, -1)}, isMuch(b.Next+1 > most))
	}
	return fault(api.ErrKind, 0)
}

// changeByHand: what an order does that is not refused.
func changeByHand(b *api.Board, o api.Order) {
	at := placeByHand(*b, o.ID)
	switch o.Kind {
	case 1:
		i := slices.IndexFunc(b.Hosts, func(h api.Host) bool { return h.ID == o.ID })
		if i < 0 {
			i = len(b.Hosts)
			b.Hosts = append(b.Hosts, api.Host{ID: o.ID})
		}
		b.Hosts[i] = hostOf(o.ID, b.Hosts[i].Epoch+1, true)
	case 2:
		for i, h := range b.Hosts {
			b.Hosts[i].Alive = h.Alive && h.ID != o.ID
		}
		for i, s := range b.Slots {
			if s.Host == o.ID {
				b.Slots[i] = api.Slot{Part: s.Part, Turn: s.Turn}
			}
		}
	case 3:
		b.Turn++
		b.Slots[at] = api.Slot{Part: b.Slots[at].Part, State: 1, Host: o.Host, Turn: b.Turn}
	case 4, 5:
		b.Slots[at].State++
	case 6:
		b.Slots[at] = api.Slot{Part: b.Slots[at].Part, Turn: o.Turn}
	case 7:
		was := b.Slots[at].Part
		b.Slots = slices.Concat(b.Slots[:at], slots{slotOf(was.From, o.Row, b.Next, 0, 0, 0), slotOf(o.Row, was.To, b.Next+1, 0, 0, 0)}, b.Slots[at+1:])
		b.Next += 2
	case 8:
		both := slotOf(b.Slots[at].Part.From, b.Slots[at+1].Part.To, b.Next, 0, 0, 0)
		b.Slots = slices.Concat(b.Slots[:at], slots{both}, b.Slots[at+2:])
		b.Next++
	}
}

// doByHand: what Do promises.
func doByHand(b api.Board, o api.Order) (api.Board, api.Fault) {
	if f := checkByHand(b); f != (api.Fault{}) {
		return api.Board{}, f
	}
	if f := refusalByHand(b, o); f != (api.Fault{}) {
		return api.Board{}, f
	}
	return but(b, func(b *api.Board) { changeByHand(b, o) }), api.Fault{}
}

// playByHand: what Play promises of at most MaxOps orders.
func playByHand(all orders) (api.Board, []api.Fault) {
	b := api.Board{Slots: slots{slotOf("", "", 1, 0, 0, 0)}, Next: 2}
	var said []api.Fault
	for _, o := range all {
		then, f := doByHand(b, o)
		said = append(said, f)
		if f == (api.Fault{}) {
			b = then
		}
	}
	return b, said
}

// dueByHand: what Due promises of a board without a fault.
func dueByHand(b api.Board) orders {
	var out orders
	loads := make([]int, len(b.Hosts))
	for i, h := range b.Hosts {
		for _, s := range b.Slots {
			if s.Host == h.ID {
				loads[i]++
			}
		}
	}
	for _, s := range b.Slots {
		to := -1
		for i, h := range b.Hosts {
			if h.Alive && (to < 0 || loads[i] < loads[to] || loads[i] == loads[to] && h.ID < b.Hosts[to].ID) {
				to = i
			}
		}
		if s.State == 0 && to >= 0 {
			loads[to]++
			out = append(out, give(s.Part.ID, b.Hosts[to].ID))
		}
	}
	return out
}

// anyHosts: of whatever IDs, some of them Alive.
func anyHosts(s *number) hosts {
	var out hosts
	for _, id := range s.mixed(25)[:s.of(0, 1, 2, 2, 3, 5, 19, 20, 20)] {
		out = append(out, hostOf(id, s.of(1, 1, 2, 9, api.MaxNum), s.below(4) > 0))
	}
	if len(out) > 0 && s.below(5) == 0 {
		out[s.below(len(out))].ID = api.MaxNum
	}
	return out
}

// anyBoard: one without a fault.
func anyBoard(s *number) api.Board {
	n := s.of(1, 1, 2, 2, 3, 4, 5, 8, 8, 12, 198+s.below(3))
	b := boardOf(anyHosts(s), manySlots(n))
	ids, turns := s.mixed(n+3), s.mixed(n+3)
	for i := range b.Slots {
		slot := &b.Slots[i]
		slot.Part.ID, slot.Turn = ids[i], turns[i]*s.of(0, 1)
		if len(b.Hosts) == 0 {
			continue
		}
		h := b.Hosts[s.below(len(b.Hosts))]
		if state := s.below(4); state > 0 && h.Alive {
			slot.State, slot.Host, slot.Turn = state, h.ID, turns[i]
		}
	}
	b.Turn = s.of(n+3, n+3, n+9, api.MaxNum-1, api.MaxNum)
	b.Next = s.of(n+4, n+4, n+9, api.MaxNum-2, api.MaxNum-1, api.MaxNum)
	return b
}

// anyRow: one at which a slot may well be split.
func anyRow(s *number, p api.Part) string {
	rows := []string{p.From + "x", p.From + "\x00", p.From, p.To, "", "row", "row0001x", "z", p.From + x(40-len(p.From)), p.From + x(41-len(p.From))}
	return rows[s.below(len(rows))]
}

// anyOrder: one that a board may well do.
func anyOrder(s *number, b api.Board) api.Order {
	slot := b.Slots[s.below(len(b.Slots))]
	o := api.Order{Kind: s.of(0, 1, 2, 3, 3, 4, 4, 5, 5, 6, 6, 7, 7, 7, 8, 8, 8, 9), ID: slot.Part.ID, Host: slot.Host, Turn: slot.Turn, Row: anyRow(s, slot.Part)}
	if len(b.Hosts) > 0 && o.Kind == 3 {
		o.Host = b.Hosts[s.below(len(b.Hosts))].ID
	}
	if len(b.Hosts) > 0 && o.Kind < 3 {
		o.ID = b.Hosts[s.below(len(b.Hosts))].ID
	}
	for _, n := range []*int{&o.ID, &o.Host, &o.Turn} {
		if s.below(8) == 0 {
			*n = s.of(*n+1, *n-1, 0, 1, 2, 7, 26, api.MaxNum, api.MaxNum+1)
		}
	}
	return o
}

// TestWhateverIsDone: orders of all Kinds to boards as they come, held against what is done by hand.
func TestWhateverIsDone(t *testing.T) {
	s := number(1)
	codes := map[[2]int]int{}
	for range 8000 {
		b := anyBoard(&s)
		wantFault(t, "Check of "+told(b), assign.Check(b), api.Fault{})
		for range 6 {
			o := anyOrder(&s, b)
			got, f := assign.Do(b, o)
			want, wanted := doByHand(b, o)
			if f != wanted || !sameBoard(got, want) {
				t.Fatalf("%v of %s: %s, %v, want %s, %v", o, told(b), told(got), f, told(want), wanted)
			}
			codes[[2]int{o.Kind, f.Code}]++
			if f == (api.Fault{}) {
				wantFault(t, "Check behind "+told(o), assign.Check(got), f)
				b = got
			}
		}
	}
	for kind, all := range [][]int{
		{api.ErrKind}, {0, api.ErrRange, api.ErrTwice, api.ErrMany, api.ErrMuch}, {0, api.ErrNone}, {0, api.ErrNone, api.ErrState, api.ErrMuch}, {0, api.ErrNone, api.ErrStale, api.ErrState},
		{0, api.ErrNone, api.ErrState}, {0, api.ErrNone, api.ErrStale, api.ErrState}, {0, api.ErrNone, api.ErrState, api.ErrSize, api.ErrForm, api.ErrMany, api.ErrMuch}, {0, api.ErrNone, api.ErrState, api.ErrMuch}, {api.ErrKind},
	} {
		for _, code := range all {
			if n := codes[[2]int{kind, code}]; n < 15 {
				t.Errorf("of the Kind %d, the code %d is told %d times alone", kind, code, n)
			}
		}
	}
}

// spoil makes one thing of a board another one, which may be wrong.
func spoil(s *number, b api.Board) api.Board {
	n := s.of(-1, 0, 1, 2, 3, 4, 5, b.Turn, b.Turn+1, b.Next-1, b.Next, api.MaxNum, api.MaxNum+1)
	return but(b, func(b *api.Board) {
		if len(b.Hosts) > 0 && s.below(4) == 0 {
			h := &b.Hosts[s.below(len(b.Hosts))]
			*[]*int{&h.ID, &h.Epoch, &h.ID}[s.below(3)] = n
			h.Alive = h.Alive && s.below(9) > 0
			return
		}
		slot := &b.Slots[s.below(min(9, len(b.Slots)))]
		switch s.below(13) {
		case 0:
			b.Turn = n
		case 1:
			b.Next = n
		case 2:
			b.Hosts = append(b.Hosts, manyHosts(s.of(1, 1, 20))...)
		case 3:
			b.Slots = b.Slots[s.of(1, len(b.Slots)):]
		case 4:
			b.Slots = append(b.Slots, manySlots(200)...)
		case 5:
			slot.Part.From = []string{"", "a", "z", x(41)}[s.below(4)]
		case 6:
			slot.Part.To = []string{"", "a", "z", x(41)}[s.below(4)]
		default:
			*[]*int{&slot.Part.ID, &slot.State, &slot.State, &slot.Host, &slot.Host, &slot.Turn}[s.below(6)] = n
		}
	})
}

// where: of which things a fault of Check tells, by its At.
func where(at int) int {
	switch {
	case at < -2000:
		return 3
	case at < -2:
		return 2
	case at < 0:
		return at
	}
	return 1
}

// TestWhateverIsChecked: boards of which one or two things are changed, held against what is looked for by hand; all calls tell the same.
func TestWhateverIsChecked(t *testing.T) {
	s := number(2)
	told := map[[2]int]int{}
	for range 12000 {
		b := anyBoard(&s)
		for range s.of(1, 1, 1, 2, 4) {
			if len(b.Slots) > 0 {
				b = spoil(&s, b)
			}
		}
		want := checkByHand(b)
		wantOfAll(t, "whatever", b, want)
		told[[2]int{where(want.At), want.Code}]++
	}
	for _, c := range [][2]int{
		{-1, api.ErrMany}, {1, api.ErrRange}, {1, api.ErrTwice}, {-2, api.ErrRange}, {2, api.ErrNone}, {2, api.ErrMany}, {2, api.ErrSize}, {2, api.ErrRange}, {2, api.ErrForm}, {2, api.ErrTwice},
		{3, api.ErrRange}, {3, api.ErrState}, {3, api.ErrNone}, {3, api.ErrTwice}, {1, api.OK},
	} {
		if told[c] < 50 {
			t.Errorf("of %v is told %d times alone", c, told[c])
		}
	}
}

// TestWhateverIsDue: of boards as they come, held against what is done by hand.
func TestWhateverIsDue(t *testing.T) {
	s := number(3)
	many := 0
	for range 5000 {
		b := anyBoard(&s)
		got, f := assign.Due(b)
		wantFault(t, "Due", f, api.Fault{})
		want := dueByHand(b)
		if !slices.Equal(got, want) {
			t.Fatalf("Due of %s: %s, want %s", told(b), told(got), told(want))
		}
		many += min(1, len(want))
	}
	if many < 1000 {
		t.Errorf("something is due of %d boards alone", many)
	}
}
