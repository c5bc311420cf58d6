package cell

import (
	"tabulary/api"
	"tabulary/view"
)

// ownCode: the code of a cell's own fault, or OK.
func ownCode(c api.Cell) int {
	switch {
	case c.Row == "" || len(c.Row) > api.MaxKey || len(c.Col) > api.MaxKey || len(c.Value) > api.MaxValue:
		return api.ErrSize
	case !view.IsNum(c.Time):
		return api.ErrRange
	case c.Gone && c.Value != "":
		return api.ErrForm
	}
	return api.OK
}

// firstFault: too many cells, or the first code of the cells' numbers that is not OK.
func firstFault(l []api.Cell, codeOf func(i int) int) api.Fault {
	if len(l) > api.MaxList {
		return api.Fault{Code: api.ErrMany}
	}
	for i := range l {
		if code := codeOf(i); code != api.OK {
			return api.Fault{Code: code, At: i}
		}
	}
	return api.Fault{}
}
