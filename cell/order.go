package cell

import (
	"slices"

	"tabulary/api"
	"tabulary/view"
)

// runs cuts cells, just where one does not stand behind the one ahead, into lists that are in order. They are pieces of l.
func runs(l []api.Cell) [][]api.Cell {
	var out [][]api.Cell
	start := 0
	for i := range l {
		if i+1 == len(l) || view.Order(l[i], l[i+1]) >= 0 {
			out = append(out, l[start:i+1])
			start = i + 1
		}
	}
	return out
}

// merged makes one list, in new memory, of lists that are in order, as many as there are. Of cells with one Row, Col and Time that of the last list stays.
func merged(lists ...[]api.Cell) []api.Cell {
	switch len(lists) {
	case 0:
		return nil
	case 1:
		return slices.Clone(lists[0])
	}
	half := len(lists) / 2
	return mergedTwo(merged(lists[:half]...), merged(lists[half:]...))
}

func mergedTwo(a, b []api.Cell) []api.Cell {
	out := make([]api.Cell, 0, len(a)+len(b))
	for len(a) > 0 && len(b) > 0 {
		at := view.Order(a[0], b[0])
		if at < 0 {
			out = append(out, a[0])
			a = a[1:]
			continue
		}
		if at == 0 {
			a = a[1:]
		}
		out = append(out, b[0])
		b = b[1:]
	}
	out = append(out, a...)
	return append(out, b...)
}
