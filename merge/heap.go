package merge

import (
	"tabulary/api"
	"tabulary/view"
)

// source: what is left of a list, and the list's number. One in a heap has a cell.
type source struct {
	cells  []api.Cell
	number int
}

// isAhead tells whether the first cell of s comes ahead of that of o. Of two with one Row, Col and Time that of the newer list does, since it counts.
func (s source) isAhead(o source) bool {
	at := view.Order(s.cells[0], o.cells[0])
	return at < 0 || at == 0 && s.number < o.number
}

// heap of sources in the places of an array. Below the place n are 2n+1 and 2n+2; no source is ahead of the one above it.
type heap struct {
	places [maxLists]source
	size   int
}

// heapOf lists, at most maxLists.
func heapOf(l [][]api.Cell) heap {
	var h heap
	for i, cells := range l {
		if len(cells) > 0 {
			h.put(source{cells, i})
		}
	}
	return h
}

// put lets a source rise from the last place.
func (h *heap) put(s source) {
	at := h.size
	h.places[at] = s
	h.size++
	for at > 0 && h.places[at].isAhead(h.places[(at-1)/2]) {
		h.swap(at, (at-1)/2)
		at = (at - 1) / 2
	}
}

// take takes the first one of all cells away. The heap must have a source.
func (h *heap) take() api.Cell {
	first := &h.places[0]
	c := first.cells[0]
	first.cells = first.cells[1:]
	if len(first.cells) == 0 {
		h.size--
		*first = h.places[h.size]
	}
	h.sink()
	return c
}

// sink lets the source at the first place go down to where it belongs.
func (h *heap) sink() {
	at := 0
	for {
		first := at
		for below := 2*at + 1; below <= 2*at+2 && below < h.size; below++ {
			if h.places[below].isAhead(h.places[first]) {
				first = below
			}
		}
		if first == at {
			return
		}
		h.swap(at, first)
		at = first
	}
}

func (h *heap) swap(a, b int) {
	h.places[a], h.places[b] = h.places[b], h.places[a]
}
