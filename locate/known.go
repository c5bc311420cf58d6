package locate

import (
	"slices"

	"tabulary/api"
	"tabulary/view"
)

// The State of a slot that is open.
const open = 2

// having: the number of what is known that has a row, or -1. No two have one in common.
func having(l []api.Known, row string) int {
	return slices.IndexFunc(l, func(k api.Known) bool { return view.IsBetween(row, k.Part.From, k.Part.To) })
}

// learnt tells, in new memory, what is known behind one that is learnt: of what was known, what has all its rows ahead of it, and what has all behind it, stays.
func learnt(l []api.Known, k api.Known) []api.Known {
	ahead := those(l, func(p api.Part) bool { return isAhead(p, k.Part) })
	behind := those(l, func(p api.Part) bool { return isAhead(k.Part, p) })
	return slices.Concat(ahead, []api.Known{k}, behind)
}

// those: what is known of the parts of which something is so.
func those(l []api.Known, isSo func(api.Part) bool) []api.Known {
	var out []api.Known
	for _, k := range l {
		if isSo(k.Part) {
			out = append(out, k)
		}
	}
	return out
}

// isAhead tells whether all rows of a part are below all of another one. Each part has some.
func isAhead(p, q api.Part) bool {
	return p.To != "" && p.To <= q.From
}

// slotWith: the slot that has a row, of a board without a fault, whose slots tile the rows.
func slotWith(b api.Board, row string) api.Slot {
	return b.Slots[slices.IndexFunc(b.Slots, func(s api.Slot) bool { return view.IsBetween(row, s.Part.From, s.Part.To) })]
}

// isServed tells whether a slot is open at a host, in a turn.
func isServed(s api.Slot, host, turn int) bool {
	return s.State == open && s.Host == host && s.Turn == turn
}
