package cell_test

import (
	"bytes"
	"slices"
	"strconv"
	"testing"

	"tabulary/api"
	"tabulary/cell"
	"tabulary/wire"
)

// written: the bytes of cells, whatever cells they are, by layer 1; of each one goneNum in the stead of 1 or 0, if it is not below 0.
func written(t *testing.T, goneNum int, l ...api.Cell) []byte {
	t.Helper()
	var out []byte
	for _, c := range l {
		n := max(goneNum, 0)
		if goneNum < 0 && c.Gone {
			n = 1
		}
		keys, f1 := wire.Texts([]string{c.Row, c.Col})
		nums, f2 := wire.Nums([]int{c.Time, n})
		value, f3 := wire.Texts([]string{c.Value})
		for _, f := range []api.Fault{f1, f2, f3} {
			wantFault(t, "layer 1", f, api.Fault{})
		}
		out = slices.Concat(out, keys, nums, value)
	}
	return out
}

// fullCells: cells in order with just so many bytes, at most 200 of each one.
func fullCells(t *testing.T, size int) []api.Cell {
	t.Helper()
	var l []api.Cell
	for i := 0; size > 0; i++ {
		// 10 bytes of Row, Col, Time and Gone, and of Value one more than it has, or two more from 128 on.
		n := min(size, 200)
		if left := size - n; left > 0 && left < 20 {
			n -= 20
		}
		value := n - 11
		if value >= 128 {
			value--
		}
		l = append(l, put("r"+strconv.Itoa(10000+i), "", 1, x(value)))
		size -= n
	}
	return l
}

func TestWriteAndRead(t *testing.T) {
	for _, c := range []struct {
		what string
		l    []api.Cell
		b    []byte
	}{
		{"nothing", nil, nil},
		{"no cells", []api.Cell{}, []byte{}},
		{"one", []api.Cell{put("r", "c", 1, "a")}, []byte{1, 'r', 1, 'c', 1, 0, 1, 'a'}},
		{"one that is Gone", []api.Cell{gone("r", "c", 7)}, []byte{1, 'r', 1, 'c', 7, 1, 0}},
		{"one without Col and Value, at 0", []api.Cell{put("r", "", 0, "")}, []byte{1, 'r', 0, 0, 0, 0}},
		{"one at MaxNum", []api.Cell{put("r", "", api.MaxNum, "")}, []byte{1, 'r', 0, 128, 148, 235, 220, 3, 0, 0}},
		{"bytes that are no letters", []api.Cell{put("\x00\xff", "é", 300, "\x80")}, []byte{2, 0, 255, 2, 195, 169, 172, 2, 0, 1, 128}},
		{"two", []api.Cell{put("r", "c", 2, "b"), put("r", "c", 1, "a")}, []byte{1, 'r', 1, 'c', 2, 0, 1, 'b', 1, 'r', 1, 'c', 1, 0, 1, 'a'}},
		{"a long Value", []api.Cell{put("r", "c", 1, x(api.MaxValue))}, append([]byte{1, 'r', 1, 'c', 1, 0, 200, 1}, x(api.MaxValue)...)},
		{"the edges", edges(), written(t, -1, edges()...)},
		{"the most cells", rising(api.MaxList), written(t, -1, rising(api.MaxList)...)},
	} {
		b, f := cell.Write(c.l)
		wantBytes(t, "Write of "+c.what, b, f, c.b)
		l, f := cell.Read(c.b)
		wantCells(t, "Read of "+c.what, l, f, c.l)
	}
}

func TestWriteAtItsLimits(t *testing.T) {
	for _, size := range []int{api.MaxBytes - 1, api.MaxBytes} {
		l := fullCells(t, size)
		b, f := cell.Write(l)
		wantBytes(t, "the most bytes", b, f, written(t, -1, l...))
		if len(b) != size {
			t.Errorf("%d bytes, want %d", len(b), size)
		}
		back, f := cell.Read(b)
		wantCells(t, "the most bytes", back, f, l)
	}
	most := rising(api.MaxList)
	for i := range most {
		most[i].Value = x(api.MaxValue)
	}
	for _, l := range [][]api.Cell{fullCells(t, api.MaxBytes+1), fullCells(t, api.MaxBytes+200), most} {
		b, f := cell.Write(l)
		wantFault(t, "too many bytes", f, fault(api.ErrMuch, 0))
		if len(b) != 0 {
			t.Errorf("too many bytes: %d bytes beside a fault", len(b))
		}
	}
}

func TestReadFaultsOfForm(t *testing.T) {
	a, b := put("r", "c", 2, "a"), put("r", "c", 1, "b")
	good := written(t, -1, a, b)
	for _, c := range []struct {
		what string
		b    []byte
		at   int
	}{
		{"a byte", []byte{1}, 0},
		{"noughts", make([]byte, 6), 0},
		{"a Row of no bytes", []byte{0, 1, 'c', 1, 0, 1, 'a'}, 0},
		{"a Row of no bytes, the third", append(slices.Clone(good), 0, 0, 0, 0, 0), 2},
		{"Gone is 2", written(t, 2, a), 0},
		{"Gone is 2, without a Value", written(t, 2, a, put("s", "", 0, "")), 0},
		{"Gone is 2, the third", append(slices.Clone(good), written(t, 2, put("s", "", 0, ""))...), 2},
		{"Gone is MaxNum", written(t, api.MaxNum, put("r", "c", 1, "")), 0},
		{"Gone is 0 in two bytes", []byte{1, 'r', 0, 1, 128, 0, 0}, 0},
		{"Gone is 1 in two bytes", []byte{1, 'r', 0, 1, 129, 0, 0}, 0},
		{"Gone, with a Value", written(t, 1, a), 0},
		{"a Row's length in two bytes", []byte{129, 0, 'r', 0, 1, 0, 0}, 0},
		{"a Col's length in two bytes", []byte{1, 'r', 129, 0, 'c', 1, 0, 0}, 0},
		{"a Col that is cut off, whose length could be the Time", []byte{1, 'r', 5, 0, 0}, 0},
		{"a Row that is cut off, whose length could be the Time", []byte{5, 0, 0}, 0},
		{"a Value that is cut off", []byte{1, 'r', 0, 1, 0, 2, 'v'}, 0},
		{"a Time longer than it must", []byte{1, 'r', 0, 129, 0, 0, 0}, 0},
		{"a Time above MaxNum", []byte{1, 'r', 0, 129, 148, 235, 220, 3, 0, 0}, 0},
		{"a Time without end", append([]byte{1, 'r', 0}, slices.Repeat([]byte{255}, 100)...), 0},
		{"a Value's length in two bytes", []byte{1, 'r', 0, 1, 0, 129, 0, 'v'}, 0},
		{"the second cut off", good[:len(good)-1], 1},
		{"the fault of a third, behind those of order", written(t, -1, b, a, put("", "", 1, "")), 2},
		{"the fault of a third, behind one that is twice", append(written(t, -1, a, a), 9), 2},
		{"the first of two", append([]byte{1, 'r', 0, 1, 7, 0}, 0), 0},
	} {
		l, f := cell.Read(c.b)
		wantNoCells(t, c.what, l, f, fault(api.ErrForm, c.at))
	}
	for _, w := range ownWrong() {
		if w.code == api.ErrRange || w.c.Time < 0 || w.c.Time > api.MaxNum || len(w.c.Row)+len(w.c.Value) > api.MaxBytes {
			continue // no bytes tell these
		}
		l, f := cell.Read(written(t, -1, w.c))
		wantNoCells(t, w.what, l, f, fault(api.ErrForm, 0))
		l, f = cell.Read(written(t, -1, a, b, w.c, a))
		wantNoCells(t, w.what+", the third", l, f, fault(api.ErrForm, 2))
	}
}

func TestReadFaults(t *testing.T) {
	a, b := put("r", "c", 2, "a"), put("r", "c", 1, "b")
	most := rising(api.MaxList)
	many := rising(api.MaxList + 1)
	short := bytes.Repeat([]byte{1, 'r', 0, 1, 0, 0}, api.MaxBytes/6)
	for _, c := range []struct {
		what string
		b    []byte
		want api.Fault
	}{
		{"one byte too many, all of cells", written(t, -1, fullCells(t, api.MaxBytes+1)...), fault(api.ErrSize, 0)},
		{"one byte too many, told ahead of the form", make([]byte, api.MaxBytes+1), fault(api.ErrSize, 0)},
		{"far too many bytes", make([]byte, 1<<22), fault(api.ErrSize, 0)},
		{"as many as may be, but no cell", make([]byte, api.MaxBytes), fault(api.ErrForm, 0)},
		{"one cell too many", written(t, -1, many...), fault(api.ErrMany, 0)},
		{"as many cells as bytes can tell", short, fault(api.ErrMany, 0)},
		{"too many cells, told ahead of the order", written(t, -1, with(many, 1, many[0])...), fault(api.ErrMany, 0)},
		{"the form, told ahead of too many", append(written(t, -1, many...), 9), fault(api.ErrForm, api.MaxList+1)},
		{"the form, told ahead of the order", append(slices.Clone(short[:600]), 0), fault(api.ErrForm, 100)},
		{"older ahead of newer", written(t, -1, b, a), fault(api.ErrTwice, 1)},
		{"one twice", written(t, -1, a, b, b), fault(api.ErrTwice, 2)},
		{"one with another Value", written(t, -1, a, b, gone("r", "c", 1)), fault(api.ErrTwice, 2)},
		{"the last of the most", written(t, -1, with(most, api.MaxList-1, most[0])...), fault(api.ErrTwice, api.MaxList-1)},
		{"the first of two of the order", written(t, -1, a, b, a, a), fault(api.ErrTwice, 2)},
	} {
		l, f := cell.Read(c.b)
		wantNoCells(t, c.what, l, f, c.want)
	}
}

// TestReadOfWriteAreTheCells: of any cells that are in order.
func TestReadOfWriteAreTheCells(t *testing.T) {
	s := number(3)
	for n := range 200 {
		l := sorted(anyCells(&s, n))
		b, f := cell.Write(l)
		wantBytes(t, "Write", b, f, written(t, -1, l...))
		back, f := cell.Read(b)
		wantCells(t, "Read of Write", back, f, l)
	}
}

// TestReadOfWhatIsCutOff: the cells that are whole, if nothing is left behind them; else their number.
func TestReadOfWhatIsCutOff(t *testing.T) {
	l := edges()
	b := written(t, -1, l...)
	ends := []int{0}
	for i := range l {
		ends = append(ends, len(written(t, -1, l[:i+1]...)))
	}
	whole := 0
	for k := range len(b) + 1 {
		if whole < len(l) && k == ends[whole+1] {
			whole++
		}
		got, f := cell.Read(b[:k])
		if k == ends[whole] {
			wantCells(t, "cut off between cells", got, f, l[:whole])
		} else {
			wantNoCells(t, "cut off within a cell", got, f, fault(api.ErrForm, whole))
		}
	}
}

// TestBytesThatAreReadAreTheOnlyOnesOfTheirCells: with a byte changed, either a fault is told, or other cells.
func TestBytesThatAreReadAreTheOnlyOnesOfTheirCells(t *testing.T) {
	b := written(t, -1, put("r", "c", 300, "b"), gone("r", "c", 2), put("s", "", 0, "xy"))
	for i := range b {
		for x := range 256 {
			changed := slices.Clone(b)
			changed[i] = byte(x)
			l, f := cell.Read(changed)
			if f != (api.Fault{}) {
				continue
			}
			again, f := cell.Write(l)
			wantBytes(t, "Write of Read", again, f, changed)
		}
	}
}
