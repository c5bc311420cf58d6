package wal

import (
	"iter"
	"slices"

	"tabulary/api"
	"tabulary/cell"
	"tabulary/coding"
	"tabulary/view"
)

// ownFault tells what is wrong with a note by itself.
func ownFault(n api.Note) api.Fault {
	if n.Seq < 1 || n.Seq > api.MaxNum {
		return api.Fault{Code: api.ErrRange, At: -1}
	}
	if len(n.Cells) == 0 || len(n.Cells) > api.MaxBatch {
		return api.Fault{Code: api.ErrMany, At: -1}
	}
	return cell.Check(n.Cells)
}

// notesFault: too many notes, or the code of what is wrong with the first that is.
func notesFault(notes []api.Note) api.Fault {
	if len(notes) > api.MaxList {
		return api.Fault{Code: api.ErrMany, At: -1}
	}
	for i, n := range notes {
		if f := ownFault(n); f != (api.Fault{}) {
			return api.Fault{Code: f.Code, At: i}
		}
	}
	return api.Fault{}
}

// follows tells whether n may be logged behind last. The zero Note, which has no Seq that a note may have, says that nothing is logged yet.
func follows(last, n api.Note) bool {
	return last.Seq == 0 || n.Seq == last.Seq+1
}

// notesOf goes through the notes of the log with which bytes begin, however many they are, each with how many bytes there are up to its end.
func notesOf(b []byte) iter.Seq2[int, api.Note] {
	return func(yield func(int, api.Note) bool) {
		r := coding.ReaderOf(b)
		last := api.Note{}
		for {
			body, ok := r.Frame()
			if !ok {
				return
			}
			n, f := Read(body)
			if f != (api.Fault{}) || !follows(last, n) {
				return
			}
			if !yield(r.At(), n) {
				return
			}
			last = n
		}
	}
}

// putIn puts cells, one behind the other, in among those of a list that is in order, or in the stead of those with their Row, Col and Time. The list's memory may be written to.
func putIn(l []api.Cell, cells ...api.Cell) []api.Cell {
	for _, c := range cells {
		at, isThere := slices.BinarySearchFunc(l, c, view.Order)
		if isThere {
			l[at] = c
		} else {
			l = slices.Insert(l, at, c)
		}
	}
	return l
}
