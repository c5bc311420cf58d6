package cell

import "tabulary/api"

// isNum tells whether a number is one that may be a time, and can be written.
func isNum(n int) bool {
	return n >= 0 && n <= api.MaxNum
}

// ownCode: the code of a cell's own fault, or OK.
func ownCode(c api.Cell) int {
	switch {
	case c.Row == "" || len(c.Row) > api.MaxKey || len(c.Col) > api.MaxKey || len(c.Value) > api.MaxValue:
		return api.ErrSize
	case !isNum(c.Time):
		return api.ErrRange
	case c.Gone && c.Value != "":
		return api.ErrForm
	}
	return api.OK
}

// firstFault: too many cells, or the first code of the cells' numbers that is not OK.
func firstFault(l []api.Cell, codeOf func(i int) int) api.Fault {
	if len(l) > api.MaxList {
		return api.Fault{Code: api.ErrMany}
	}
	for i := range l {
		if code := codeOf(i); code != api.OK {
			return api.Fault{Code: code, At: i}
		}
	}
	return api.Fault{}
}

// seenAt answers a function that is asked of cells in order, of each one once: is this one seen at the time?
func seenAt(time int) func(api.Cell) bool {
	// The newest cell of its row and column that is not above the time hides those behind it, even if it is Gone. None has a Row without bytes, as the zero Cell has, which therefore hides nothing.
	var newest api.Cell
	return func(c api.Cell) bool {
		if c.Time > time || c.Row == newest.Row && c.Col == newest.Col {
			return false
		}
		newest = c
		return !c.Gone
	}
}

func asksFor(a api.Ask, row string) bool {
	return row >= a.From && (a.To == "" || row < a.To)
}
