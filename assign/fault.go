package assign

import (
	"tabulary/api"
	"tabulary/parts"
	"tabulary/view"
)

// What is taken from where a fault is, so that one of the slots' parts, and one of the slots, is told from one of the hosts.
const (
	partsLess = 1000
	slotsLess = 2001
)

// byID: hosts by their IDs.
type byID map[int]api.Host

// hostsByID checks hosts, and tells them by their IDs; none beside a fault.
func hostsByID(l []api.Host) (byID, api.Fault) {
	if len(l) > api.MaxHosts {
		return nil, api.Fault{Code: api.ErrMany, At: -1}
	}
	hosts := byID{}
	for i, h := range l {
		if !isFromOne(h.ID) || !isFromOne(h.Epoch) {
			return nil, api.Fault{Code: api.ErrRange, At: i}
		}
		if _, is := hosts[h.ID]; is {
			return nil, api.Fault{Code: api.ErrTwice, At: i}
		}
		hosts[h.ID] = h
	}
	return hosts, api.Fault{}
}

// numbersFault tells whether a board's own numbers may be.
func numbersFault(b api.Board) api.Fault {
	if !view.IsNum(b.Turn) || !isFromOne(b.Next) {
		return api.Fault{Code: api.ErrRange, At: -2}
	}
	return api.Fault{}
}

// partsFault tells why slots do not tile the rows.
func partsFault(slots []api.Slot) api.Fault {
	f := parts.Check(partsOf(slots))
	if f != (api.Fault{}) {
		f.At -= partsLess
	}
	return f
}

// slotsFault tells what is wrong with the slots of a board, but for their parts.
func slotsFault(b api.Board, hosts byID) api.Fault {
	// How often each turn was given.
	times := map[int]int{}
	for i, s := range b.Slots {
		code := hosts.codeOf(b, s)
		if code == api.OK && s.Turn != 0 && times[s.Turn] > 0 {
			code = api.ErrTwice
		}
		if code != api.OK {
			return api.Fault{Code: code, At: -slotsLess - i}
		}
		times[s.Turn]++
	}
	return api.Fault{}
}

// codeOf: the code of what is wrong with a slot by itself, or OK. A host that is not there is the zero Host, which is not Alive.
func (hosts byID) codeOf(b api.Board, s api.Slot) int {
	switch {
	case s.State < off || s.State > closing || s.Turn < 0 || s.Turn > b.Turn || s.Part.ID < 1 || s.Part.ID >= b.Next:
		return api.ErrRange
	case s.State == off && s.Host != 0:
		return api.ErrState
	case s.State == off:
		return api.OK
	case !hosts[s.Host].Alive:
		return api.ErrNone
	case s.Turn == 0:
		return api.ErrRange
	}
	return api.OK
}

// slotFault tells why a slot is not there, or not in a state.
func slotFault(s *api.Slot, state int) api.Fault {
	if s == nil {
		return api.Fault{Code: api.ErrNone, At: -1}
	}
	if s.State != state {
		return api.Fault{Code: api.ErrState, At: -1}
	}
	return api.Fault{}
}

// heldFault tells why an order of the host and the turn to which a slot was given does not go with it: it may be late, and the slot given anew.
func heldFault(s *api.Slot, o api.Order, state int) api.Fault {
	if s != nil && (s.Host != o.Host || s.Turn != o.Turn) {
		return api.Fault{Code: api.ErrStale, At: -1}
	}
	return slotFault(s, state)
}

// partsOf: the parts of slots.
func partsOf(slots []api.Slot) []api.Part {
	var out []api.Part
	for _, s := range slots {
		out = append(out, s.Part)
	}
	return out
}

// isFromOne tells whether a number may be one that is counted from 1 on.
func isFromOne(n int) bool {
	return n > 0 && view.IsNum(n)
}
