package cell

import (
	"tabulary/api"
	"tabulary/coding"
)

// appendCell writes a cell without faults behind bytes.
func appendCell(out []byte, c api.Cell) []byte {
	out = coding.AppendText(out, c.Row)
	out = coding.AppendText(out, c.Col)
	out = coding.AppendNum(out, c.Time)
	gone := 0
	if c.Gone {
		gone = 1
	}
	out = coding.AppendNum(out, gone)
	return coding.AppendText(out, c.Value)
}

// readCell reads a written cell. With false the reader stands anywhere, and what it read is nothing.
func readCell(r *coding.Reader) (api.Cell, bool) {
	row, rowOK := r.Text()
	col, colOK := r.Text()
	time, timeOK := r.Num()
	gone, goneOK := r.Num()
	value, valueOK := r.Text()
	if !rowOK || !colOK || !timeOK || !goneOK || gone > 1 || !valueOK {
		return api.Cell{}, false
	}
	return api.Cell{Row: row, Col: col, Time: time, Gone: gone == 1, Value: value}, true
}
