package entry

import (
	"tabulary/api"
	"tabulary/view"
)

// secondLess is taken from where a fault of the second of two logs is, so that it is told from one of the first.
const secondLess = 1000

// codeBehind: the code of what is wrong with an entry behind one of the Term ahead, or OK.
func codeBehind(ahead int, e api.Entry) int {
	switch {
	case e.Term == 0 || !view.IsNum(e.Term):
		return api.ErrRange
	case e.Term < ahead:
		return api.ErrState
	case len(e.Text) > api.MaxValue:
		return api.ErrSize
	}
	return api.OK
}

// olderFault tells why a log can't be held against one of n entries, whose last Term is term.
func olderFault(l []api.Entry, n, term int) api.Fault {
	if f := Check(l); f != (api.Fault{}) {
		return f
	}
	return numbersFault(n, term)
}

// putFault tells what is wrong with what Put is given.
func putFault(l []api.Entry, at, term int, more []api.Entry) api.Fault {
	if f := bothFault(l, more); f != (api.Fault{}) {
		return f
	}
	return numbersFault(at, term)
}

// bothFault tells what is wrong with the first one of two logs, else with the second one.
func bothFault(a, b []api.Entry) api.Fault {
	if f := Check(a); f != (api.Fault{}) {
		return f
	}
	f := Check(b)
	if f != (api.Fault{}) {
		f.At -= secondLess
	}
	return f
}

// numbersFault tells which one of a place, or of how many entries there are, and of a Term is no number.
func numbersFault(place, term int) api.Fault {
	if !view.IsNum(place) {
		return api.Fault{Code: api.ErrRange, At: -1}
	}
	if !view.IsNum(term) {
		return api.Fault{Code: api.ErrRange, At: -2}
	}
	return api.Fault{}
}

// outFault tells why what comes out of Put can't be a log: wherever its entries are wrong, they were not so ahead of it, so that no place is told.
func outFault(out []api.Entry) api.Fault {
	f := Check(out)
	if f == (api.Fault{}) || f.Code == api.ErrMany {
		return f
	}
	return api.Fault{Code: api.ErrState, At: -1}
}
