package locate

import (
	"tabulary/api"
	"tabulary/assign"
)

// knownLess is taken from where a fault of what is known is, so that it is told from one of the board.
const knownLess = 10000

// codeAt: the code of what is wrong with one of what is known, or OK. Those ahead are fine, and so in order: if one of them is not ahead of it, the last one is not.
func codeAt(l []api.Known, i int) int {
	code := partCode(l[i].Part)
	if code == api.OK && i > 0 && !isAhead(l[i-1].Part, l[i].Part) {
		return api.ErrTwice
	}
	return code
}

// partCode: the code of what is wrong with a part by itself, or OK.
func partCode(p api.Part) int {
	if len(p.From) > api.MaxKey || len(p.To) > api.MaxKey {
		return api.ErrSize
	}
	if p.To != "" && p.To <= p.From {
		return api.ErrForm
	}
	return api.OK
}

// findFault tells what is wrong with a board, or else with what is known.
func findFault(b api.Board, l []api.Known) api.Fault {
	if f := assign.Check(b); f != (api.Fault{}) {
		return f
	}
	f := Check(l)
	if f != (api.Fault{}) {
		f.At -= knownLess
	}
	return f
}
