package assign

import (
	"slices"

	"tabulary/api"
	"tabulary/parts"
)

// States of a slot.
const (
	off = iota
	opening
	open
	closing
)

// Kinds of orders.
const (
	hostComes = iota + 1
	hostIsLost
	slotIsGiven
	slotHasOpened
	slotCloses
	slotHasClosed
	slotIsSplit
	slotsAreJoined
)

// board is a board in memory of its own, with what orders do to it. Each one looks for all of its faults ahead of what it changes, so that one that is refused changes nothing.
type board struct {
	api.Board
}

// copied: a board in new memory, so that it may be written to and answered.
func copied(b api.Board) board {
	b.Hosts = slices.Clone(b.Hosts)
	b.Slots = slices.Clone(b.Slots)
	return board{b}
}

// do does an order, or tells why it is refused.
func (b *board) do(o api.Order) api.Fault {
	switch o.Kind {
	case hostComes:
		return b.come(o.ID)
	case hostIsLost:
		return b.lose(o.ID)
	case slotIsGiven:
		return b.give(o.ID, o.Host)
	case slotHasOpened:
		return b.opened(o)
	case slotCloses:
		return b.close(o.ID)
	case slotHasClosed:
		return b.closed(o)
	case slotIsSplit:
		return b.split(o.ID, o.Row)
	case slotsAreJoined:
		return b.join(o.ID)
	}
	return api.Fault{Code: api.ErrKind}
}

// come: a host that is there already needs no room.
func (b *board) come(id int) api.Fault {
	h := b.host(id)
	switch {
	case !isFromOne(id):
		return api.Fault{Code: api.ErrRange, At: -1}
	case h != nil && h.Alive:
		return api.Fault{Code: api.ErrTwice, At: -1}
	case h == nil && len(b.Hosts) == api.MaxHosts:
		return api.Fault{Code: api.ErrMany, At: -1}
	case h == nil:
		b.Hosts = append(b.Hosts, api.Host{ID: id, Epoch: 1, Alive: true})
		return api.Fault{}
	case h.Epoch == api.MaxNum:
		return api.Fault{Code: api.ErrMuch}
	}
	h.Epoch++
	h.Alive = true
	return api.Fault{}
}

func (b *board) lose(id int) api.Fault {
	h := b.host(id)
	if h == nil || !h.Alive {
		return api.Fault{Code: api.ErrNone, At: -1}
	}
	h.Alive = false
	for i := range b.Slots {
		if b.Slots[i].Host == id {
			turnOff(&b.Slots[i])
		}
	}
	return api.Fault{}
}

func (b *board) give(id, host int) api.Fault {
	s, h := b.slot(id), b.host(host)
	// Whether the host is there is asked between whether the slot is, and whether it is off.
	if s != nil && (h == nil || !h.Alive) {
		return api.Fault{Code: api.ErrNone, At: -2}
	}
	if f := slotFault(s, off); f != (api.Fault{}) {
		return f
	}
	if b.Turn == api.MaxNum {
		return api.Fault{Code: api.ErrMuch}
	}
	b.Turn++
	s.State, s.Host, s.Turn = opening, host, b.Turn
	return api.Fault{}
}

func (b *board) opened(o api.Order) api.Fault {
	s := b.slot(o.ID)
	if f := heldFault(s, o, opening); f != (api.Fault{}) {
		return f
	}
	s.State = open
	return api.Fault{}
}

func (b *board) close(id int) api.Fault {
	s := b.slot(id)
	if f := slotFault(s, open); f != (api.Fault{}) {
		return f
	}
	s.State = closing
	return api.Fault{}
}

func (b *board) closed(o api.Order) api.Fault {
	s := b.slot(o.ID)
	if f := heldFault(s, o, closing); f != (api.Fault{}) {
		return f
	}
	turnOff(s)
	return api.Fault{}
}

func (b *board) split(id int, row string) api.Fault {
	if f := slotFault(b.slot(id), off); f != (api.Fault{}) {
		return f
	}
	at := b.numberOf(id)
	// Neither 0 nor Next is the number of a slot, so that nothing is said of these; whether there are numbers for the new slots is asked last.
	l, f := parts.Split(partsOf(b.Slots), at, row, 0, b.Next)
	if f != (api.Fault{}) {
		return f
	}
	return b.renew(at, at+1, l[at], l[at+1])
}

func (b *board) join(id int) api.Fault {
	at := b.numberOf(id)
	if at < 0 || at == len(b.Slots)-1 {
		return api.Fault{Code: api.ErrNone, At: -1}
	}
	left, right := b.Slots[at], b.Slots[at+1]
	if left.State != off || right.State != off {
		return api.Fault{Code: api.ErrState, At: -1}
	}
	return b.renew(at, at+2, api.Part{From: left.Part.From, To: right.Part.To})
}

// renew puts slots of parts, which get the next numbers, in the stead of those from the number from on, ahead of to.
func (b *board) renew(from, to int, l ...api.Part) api.Fault {
	if b.Next+len(l) > api.MaxNum {
		return api.Fault{Code: api.ErrMuch}
	}
	var slots []api.Slot
	for _, p := range l {
		p.ID = b.Next
		b.Next++
		slots = append(slots, api.Slot{Part: p, State: off})
	}
	b.Slots = slices.Replace(b.Slots, from, to, slots...)
	return api.Fault{}
}

// turnOff takes a slot from its host. The turn stays: what was told in it is known to be late by it.
func turnOff(s *api.Slot) {
	s.State, s.Host = off, 0
}

// host: that of an ID, or nil.
func (b *board) host(id int) *api.Host {
	for i := range b.Hosts {
		if b.Hosts[i].ID == id {
			return &b.Hosts[i]
		}
	}
	return nil
}

// slot: that of an ID, or nil.
func (b *board) slot(id int) *api.Slot {
	if at := b.numberOf(id); at >= 0 {
		return &b.Slots[at]
	}
	return nil
}

// numberOf: the number of the slot of an ID, or -1.
func (b *board) numberOf(id int) int {
	return slices.IndexFunc(b.Slots, func(s api.Slot) bool { return s.Part.ID == id })
}
