package file

import (
	"bytes"

	"tabulary/api"
	"tabulary/coding"
)

// table is what an opened file has: its cells, the first row of each block, and its filter.
type table struct {
	cells  []api.Cell
	rows   []string
	filter filter
}

// opened reads a file; the table is zero beside a fault.
func opened(b []byte) (table, api.Fault) {
	if len(b) > api.MaxBytes {
		return table{}, api.Fault{Code: api.ErrSize}
	}
	blocks, index, bits, ok := pieces(b)
	if !ok {
		return table{}, api.Fault{Code: api.ErrForm}
	}
	rows, ok := readIndex(index, blocks)
	if !ok {
		return table{}, api.Fault{Code: api.ErrForm, At: 1}
	}
	cells, ok := readBlocks(blocks, rows)
	if !ok {
		return table{}, api.Fault{Code: api.ErrForm, At: 2}
	}
	if !bytes.Equal(bits, filterOf(cells)) {
		return table{}, api.Fault{Code: api.ErrForm, At: 3}
	}
	return table{cells: cells, rows: rows, filter: bits}, api.Fault{}
}

// pieces of a file, which are not copied: its blocks, its index and its filter; with false the bytes are not all frames of these.
func pieces(b []byte) (blocks [][]byte, index []byte, bits filter, ok bool) {
	bodies, ok := bodiesOf(b)
	last := len(bodies) - 1
	if !ok || last < 1 || len(bodies[last]) == 0 {
		return nil, nil, nil, false
	}
	return bodies[:last-1], bodies[last-1], bodies[last], true
}

// bodiesOf all frames, however many: also of more than layer 1's Open takes it is the blocks that tell what is wrong.
func bodiesOf(b []byte) ([][]byte, bool) {
	r := coding.ReaderOf(b)
	var out [][]byte
	for !r.Done() {
		body, ok := r.Frame()
		if !ok {
			return nil, false
		}
		out = append(out, body)
	}
	return out, true
}
