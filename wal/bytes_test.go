package wal_test

import (
	"bytes"
	"slices"
	"testing"

	"tabulary/api"
	"tabulary/wal"
)

func TestWrite(t *testing.T) {
	for _, c := range []struct {
		what string
		n    api.Note
		want []byte
	}{
		{"the example", note(1, put("r", "c", 7, "a")), []byte{1, 1, 'r', 1, 'c', 7, 0, 1, 'a'}},
		{"a Seq of two bytes", note(300, put("r", "", 0, "")), []byte{172, 2, 1, 'r', 0, 0, 0, 0}},
		{"the greatest Seq", note(api.MaxNum, gone("r", "", 0)), []byte{128, 148, 235, 220, 3, 1, 'r', 0, 0, 1, 0}},
		{"two cells", note(2, put("r", "c", 2, "b"), gone("r", "c", 1)), []byte{2, 1, 'r', 1, 'c', 2, 0, 1, 'b', 1, 'r', 1, 'c', 1, 1, 0}},
		{"the edges", note(127, edges()...), byHand(note(127, edges()...))},
		{"the most cells", note(128, rising(0, api.MaxBatch)...), byHand(note(128, rising(0, api.MaxBatch)...))},
	} {
		b, f := wal.Write(c.n)
		wantBytes(t, "Write of "+c.what, b, f, c.want)
	}
}

func TestWriteFaults(t *testing.T) {
	for _, w := range wrongNotes() {
		b, f := wal.Write(w.n)
		wantFault(t, "Write of "+w.what, f, w.want)
		if len(b) != 0 {
			t.Errorf("Write of %s: %d bytes beside a fault", w.what, len(b))
		}
	}
}

// TestTheLongestNote: nothing limits it but its cells.
func TestTheLongestNote(t *testing.T) {
	cells := make(list, api.MaxBatch)
	for i := range cells {
		cells[i] = put(x(api.MaxKey), x(api.MaxKey), api.MaxNum-i, x(api.MaxValue))
	}
	n := note(api.MaxNum, cells...)
	b, f := wal.Write(n)
	wantBytes(t, "Write", b, f, byHand(n))
	if len(b) != 5+api.MaxBatch*(41+41+5+1+202) {
		t.Errorf("%d bytes", len(b))
	}
	back, f := wal.Read(b)
	wantNote(t, "Read", back, f, n)
	wantReplay(t, "Replay", logged(t, api.Disk{}, n), len(b)+6, []api.Note{n})
}

func TestRead(t *testing.T) {
	for _, c := range []struct {
		what string
		b    []byte
		want api.Note
	}{
		{"the example", []byte{1, 1, 'r', 1, 'c', 7, 0, 1, 'a'}, note(1, put("r", "c", 7, "a"))},
		{"a Seq of two bytes", []byte{172, 2, 1, 'r', 0, 0, 0, 0}, note(300, put("r", "", 0, ""))},
		{"the greatest Seq", []byte{128, 148, 235, 220, 3, 1, 'r', 0, 0, 1, 0}, note(api.MaxNum, gone("r", "", 0))},
		{"two cells", []byte{2, 1, 'r', 1, 'c', 2, 0, 1, 'b', 1, 'r', 1, 'c', 1, 1, 0}, note(2, put("r", "c", 2, "b"), gone("r", "c", 1))},
	} {
		n, f := wal.Read(c.b)
		wantNote(t, "Read of "+c.what, n, f, c.want)
	}
}

// TestWhatIsWrittenIsRead: and the bytes are those that the chapter says.
func TestWhatIsWrittenIsRead(t *testing.T) {
	s := number(1)
	notes := append(someNotes(), small(1, 300)...)
	for _, seq := range []int{1, 127, 128, 16383, 16384, 2097151, 2097152, 268435455, 268435456, api.MaxNum - 99} {
		notes = append(notes, anyNotes(&s, seq, 100)...)
	}
	for _, n := range notes {
		b, f := wal.Write(n)
		wantBytes(t, "Write", b, f, byHand(n))
		back, f := wal.Read(b)
		wantNote(t, "Read of Write", back, f, n)
	}
}

func TestReadFaults(t *testing.T) {
	good := put("r", "c", 2, "v")
	most := rising(0, api.MaxList)
	many := rising(0, api.MaxList+1)
	cells := func(seq byte, l ...api.Cell) []byte { return append([]byte{seq}, cellsByHand(l...)...) }
	for _, c := range []struct {
		what string
		b    []byte
		want api.Fault
	}{
		{"nothing", nil, fault(api.ErrForm, -1)},
		{"no bytes", []byte{}, fault(api.ErrForm, -1)},
		{"a number that goes on", []byte{129}, fault(api.ErrForm, -1)},
		{"a number of four bytes that goes on", []byte{128, 148, 235, 220}, fault(api.ErrForm, -1)},
		{"a number that is longer than it must be", append([]byte{129, 0}, cellsByHand(good)...), fault(api.ErrForm, -1)},
		{"a number above MaxNum", append([]byte{129, 148, 235, 220, 3}, cellsByHand(good)...), fault(api.ErrForm, -1)},
		{"no number, told ahead of no cell", []byte{129, 0, 255}, fault(api.ErrForm, -1)},
		{"the Seq 0", cells(0, good), fault(api.ErrRange, -1)},
		{"the Seq 0, told ahead of no cells", []byte{0}, fault(api.ErrRange, -1)},
		{"the Seq 0, told ahead of many cells", cells(0, most[:api.MaxBatch+1]...), fault(api.ErrRange, -1)},
		{"no cells", []byte{1}, fault(api.ErrMany, -1)},
		{"no cells behind the greatest Seq", []byte{128, 148, 235, 220, 3}, fault(api.ErrMany, -1)},
		{"one cell too many", cells(1, most[:api.MaxBatch+1]...), fault(api.ErrMany, -1)},
		{"as many cells as a list has", cells(1, most...), fault(api.ErrMany, -1)},
		{"more cells than a list has", cells(1, many...), fault(api.ErrMany, 0)},
		{"more cells than a list has, told ahead of the Seq 0", cells(0, many...), fault(api.ErrMany, 0)},
		{"a cell that is cut off", []byte{1, 1, 'r', 1, 'c', 7, 0, 1}, fault(api.ErrForm, 0)},
		{"a cell that is cut off, told ahead of the Seq 0", []byte{0, 1, 'r', 1, 'c', 7, 0, 1}, fault(api.ErrForm, 0)},
		{"a byte behind the cell", append(cells(1, good), 1), fault(api.ErrForm, 1)},
		{"a cell that is Gone twice", []byte{1, 1, 'r', 1, 'c', 7, 2, 0}, fault(api.ErrForm, 0)},
		{"a length that is longer than it must be", []byte{1, 129, 0, 'r', 1, 'c', 7, 0, 0}, fault(api.ErrForm, 0)},
		{"a Row of no bytes", cells(1, put("", "c", 1, "v")), fault(api.ErrForm, 0)},
		{"a Row that is too long", cells(1, good, put(x(api.MaxKey+1), "c", 1, "v")), fault(api.ErrForm, 1)},
		{"a Value that is too long", cells(1, put("r", "c", 1, x(api.MaxValue+1))), fault(api.ErrForm, 0)},
		{"a Time above MaxNum", cells(1, good, put("s", "c", api.MaxNum+1, "v")), fault(api.ErrForm, 1)},
		{"Gone, with a Value", cells(1, api.Cell{Row: "r", Gone: true, Value: "v"}), fault(api.ErrForm, 0)},
		{"one cell twice", cells(1, good, good), fault(api.ErrTwice, 1)},
		{"one cell twice, told ahead of the Seq 0", cells(0, good, good), fault(api.ErrTwice, 1)},
		{"older ahead of newer, told ahead of many cells", cells(1, append(slices.Clone(most[:30]), most[3])...), fault(api.ErrTwice, 30)},
		{"no cell, told ahead of the order", append(cells(1, good, good), 9), fault(api.ErrForm, 2)},
		{"no cell, told ahead of many cells", append(cells(1, most[:api.MaxBatch+1]...), 9), fault(api.ErrForm, api.MaxBatch+1)},
		{"no cell, behind more than a list has", append(cells(1, many...), 9), fault(api.ErrForm, api.MaxList+1)},
	} {
		n, f := wal.Read(c.b)
		wantNoNote(t, "Read of "+c.what, n, f, c.want)
	}
}

// TestReadOfTheMostBytes: of so many there is a note of too many cells; one more, and nothing but that is told.
func TestReadOfTheMostBytes(t *testing.T) {
	most := rising(0, api.MaxList)
	for i := range most {
		most[i].Value = x(45)
	}
	most[0].Value = x(44)
	b := append([]byte{1}, cellsByHand(most...)...)
	if len(b) != api.MaxBytes {
		t.Fatalf("%d bytes", len(b))
	}
	n, f := wal.Read(b)
	wantNoNote(t, "Read of the most", n, f, fault(api.ErrMany, -1))
	n, f = wal.Read(append(b, 0))
	wantNoNote(t, "Read of one byte more", n, f, fault(api.ErrSize, 0))
	for _, x := range []byte{0, 1, 255} {
		n, f = wal.Read(bytes.Repeat([]byte{x}, api.MaxBytes+1))
		wantNoNote(t, "Read of too many bytes, told ahead of all", n, f, fault(api.ErrSize, 0))
	}
	n, f = wal.Read(bytes.Repeat([]byte{255}, api.MaxBytes))
	wantNoNote(t, "Read of the most, without a number", n, f, fault(api.ErrForm, -1))
	n, f = wal.Read(make([]byte, api.MaxBytes))
	wantNoNote(t, "Read of the most, without a cell", n, f, fault(api.ErrForm, 0))
}

// TestReadOfWhatIsCutOff: within the number, behind it, within a cell, and between cells.
func TestReadOfWhatIsCutOff(t *testing.T) {
	n := note(api.MaxNum, edges()...)
	b := byHand(n)
	whole := 0
	for k := range len(b) {
		at := len(byHand(note(n.Seq, n.Cells[:whole+1]...)))
		if k == at {
			whole++
		}
		got, f := wal.Read(b[:k])
		switch {
		case k < 5:
			wantNoNote(t, "cut off within the number", got, f, fault(api.ErrForm, -1))
		case k == 5:
			wantNoNote(t, "cut off behind the number", got, f, fault(api.ErrMany, -1))
		case k == at:
			wantNote(t, "cut off between cells", got, f, note(n.Seq, n.Cells[:whole]...))
		default:
			wantNoNote(t, "cut off within a cell", got, f, fault(api.ErrForm, whole))
		}
	}
}

// TestBytesThatAreReadAreTheOnlyOnesOfTheirNote: with a byte changed, either a fault is told, or another note.
func TestBytesThatAreReadAreTheOnlyOnesOfTheirNote(t *testing.T) {
	b := byHand(note(300, put("r", "c", 300, "b"), gone("r", "c", 2), put("s", "", 0, "xy")))
	for i := range b {
		for x := range 256 {
			changed := slices.Clone(b)
			changed[i] = byte(x)
			n, f := wal.Read(changed)
			if f != (api.Fault{}) {
				wantNoNote(t, "Read of what is changed", n, f, f)
				continue
			}
			again, f := wal.Write(n)
			wantBytes(t, "Write of Read", again, f, changed)
		}
	}
}
