package tablet_test

import (
	"bytes"
	"cmp"
	"encoding/binary"
	"hash/crc32"
	"slices"
	"strconv"
	"strings"
	"testing"

	"tabulary/api"
	"tabulary/file"
	"tabulary/tablet"
)

type list = []api.Cell

func fault(code, at int) api.Fault { return api.Fault{Code: code, At: at} }

// put: a cell with a value.
func put(row, col string, time int, value string) api.Cell {
	return api.Cell{Row: row, Col: col, Time: time, Value: value}
}

// gone: a cell that is Gone.
func gone(row, col string, time int) api.Cell {
	return api.Cell{Row: row, Col: col, Time: time, Gone: true}
}

func note(seq int, cells ...api.Cell) api.Note { return api.Note{Seq: seq, Cells: cells} }

func x(n int) string { return strings.Repeat("x", n) }

// cut keeps what a failing test tells readable.
func cut[T any](l []T) []T { return l[:min(len(l), 20)] }

func wantFault(t *testing.T, what string, got, want api.Fault) {
	t.Helper()
	if got != want {
		t.Errorf("%s: fault %v, want %v", what, got, want)
	}
}

// wantCells: no fault, and just these cells.
func wantCells(t *testing.T, what string, got list, f api.Fault, want list) {
	t.Helper()
	wantFault(t, what, f, api.Fault{})
	if !slices.Equal(got, want) {
		t.Errorf("%s: %d cells %v, want %d %v", what, len(got), cut(got), len(want), cut(want))
	}
}

func sameTablet(a, b api.Tablet) bool {
	return bytes.Equal(a.Log.Bytes, b.Log.Bytes) && a.Log.Kept == b.Log.Kept &&
		slices.EqualFunc(a.Files, b.Files, bytes.Equal) && a.Done == b.Done && a.Since == b.Since
}

// told: what a failing test tells of a tablet.
func told(a api.Tablet) string {
	out := strconv.Itoa(a.Log.Kept) + " kept of " + strconv.Itoa(len(a.Log.Bytes))
	for _, b := range a.Files {
		out += ", a file of " + strconv.Itoa(len(b))
	}
	return out + ", Done " + strconv.Itoa(a.Done) + ", Since " + strconv.Itoa(a.Since)
}

// wantTablet: no fault, and just this tablet, of which Check tells nothing.
func wantTablet(t *testing.T, what string, got api.Tablet, f api.Fault, want api.Tablet) {
	t.Helper()
	wantFault(t, what, f, api.Fault{})
	if !sameTablet(got, want) {
		t.Errorf("%s: %s; want %s", what, told(got), told(want))
	}
	wantFault(t, "Check of "+what, tablet.Check(got), api.Fault{})
}

// wantNoTablet: just this fault, and a tablet that is zero.
func wantNoTablet(t *testing.T, what string, got api.Tablet, f, want api.Fault) {
	t.Helper()
	wantFault(t, what, f, want)
	if !sameTablet(got, api.Tablet{}) {
		t.Errorf("%s: %s, beside a fault", what, told(got))
	}
}

func textByHand(out []byte, s string) []byte {
	return append(binary.AppendUvarint(out, uint64(len(s))), s...)
}

// frameByHand: the frame of a note, whatever is wrong with it, by the library's numbers and sum.
func frameByHand(n api.Note) []byte {
	body := binary.AppendUvarint(nil, uint64(n.Seq))
	for _, c := range n.Cells {
		body = textByHand(textByHand(body, c.Row), c.Col)
		body = binary.AppendUvarint(body, uint64(c.Time))
		isGone := byte(0)
		if c.Gone {
			isGone = 1
		}
		body = textByHand(append(body, isGone), c.Value)
	}
	out := append(binary.BigEndian.AppendUint16(nil, uint16(len(body))), body...)
	return binary.BigEndian.AppendUint32(out, crc32.ChecksumIEEE(out))
}

// logByHand: the frames of notes, none of them kept.
func logByHand(notes ...api.Note) api.Disk {
	var out []byte
	for _, n := range notes {
		out = append(out, frameByHand(n)...)
	}
	return api.Disk{Bytes: out}
}

// kept: the log of notes, all of it kept.
func kept(notes ...api.Note) api.Disk {
	d := logByHand(notes...)
	d.Kept = len(d.Bytes)
	return d
}

// fileOf cells, in blocks of size.
func fileOf(size int, l ...api.Cell) []byte {
	b, f := file.Make(l, size)
	if f != (api.Fault{}) {
		panic("no file of these cells")
	}
	return b
}

// filesOf lists, each one a file, in blocks of 50.
func filesOf(lists ...list) [][]byte {
	var out [][]byte
	for _, l := range lists {
		out = append(out, fileOf(50, l...))
	}
	return out
}

// rising: n cells in order, each of a row of its own, the first one with this number.
func rising(from, n int) list {
	out := make(list, n)
	for i := range out {
		out[i] = put("row"+strconv.Itoa(100000+from+i), "c", (from+i)%7, "v"+strconv.Itoa(from+i))
	}
	return out
}

// dealt: the cells, at most MaxBatch a note, in notes from the Seq from on.
func dealt(from int, l list) []api.Note {
	var out []api.Note
	for cells := range slices.Chunk(l, api.MaxBatch) {
		out = append(out, note(from+len(out), cells...))
	}
	return out
}

// small: n notes of one small cell each that follow one another, the first one with this Seq.
func small(from, n int) []api.Note {
	out := make([]api.Note, n)
	for i := range out {
		out[i] = note(from+i, put("r", "", (from+i)%5, ""))
	}
	return out
}

// noteOf: the note seq of one cell of the time 9, whose frame has just so many bytes.
func noteOf(seq, size int) api.Note {
	for row := range api.MaxKey {
		for value := range api.MaxValue + 1 {
			n := note(seq, put(x(row+1), "c", 9, x(value)))
			if len(frameByHand(n)) == size {
				return n
			}
		}
	}
	panic("no note of so many bytes")
}

// upTo: the notes, and others behind them, so that their log has just so many bytes; with one more cell in memory or a few.
func upTo(size int, notes ...api.Note) []api.Note {
	left := size - len(logByHand(notes...).Bytes)
	for left > 0 {
		bytes := left
		if left > 400 {
			bytes = 200
		} else if left > 200 {
			bytes = left / 2
		}
		notes = append(notes, noteOf(notes[len(notes)-1].Seq+1, bytes))
		left -= bytes
	}
	return notes
}

// number makes numbers below n that look like nothing, the same ones in each run.
type number uint32

func (s *number) below(n int) int {
	*s = *s*1664525 + 1013904223
	return int(*s>>16) % n
}

// sameOrder: by the library, what chapter 3 calls in order.
func sameOrder(a, b api.Cell) int {
	return cmp.Or(bytes.Compare([]byte(a.Row), []byte(b.Row)), bytes.Compare([]byte(a.Col), []byte(b.Col)), b.Time-a.Time)
}

func sameKey(a, b api.Cell) bool { return a.Row == b.Row && a.Col == b.Col && a.Time == b.Time }

func samePlace(a, b api.Cell) bool { return a.Row == b.Row && a.Col == b.Col }

// anyList: at most n cells in order, of few rows, columns and times from since on, some of them Gone; mark is in each value.
func anyList(s *number, n, since int, mark string) list {
	rows := []string{"a", "aa", "ab", "b", "\x00", "\xff", "é"}
	cols := []string{"", "b", "\xff"}
	out := make(list, n)
	for i := range out {
		time := min(since+s.below(6), api.MaxNum)
		out[i] = put(rows[s.below(len(rows))], cols[s.below(len(cols))], time, mark+strconv.Itoa(i))
		if s.below(3) == 0 {
			out[i].Gone, out[i].Value = true, ""
		}
	}
	slices.SortStableFunc(out, sameOrder)
	return slices.CompactFunc(out, sameKey)
}

// joinedByHand: what counts of lists, the newest one first, by the library's stable sort.
func joinedByHand(l ...list) list {
	out := slices.Concat(l...)
	slices.SortStableFunc(out, sameOrder)
	return slices.CompactFunc(out, sameKey)
}

// appliedByHand: what the notes put, the last one the newest.
func appliedByHand(notes ...api.Note) list {
	var l []list
	for _, n := range notes {
		l = append([]list{n.Cells}, l...)
	}
	return joinedByHand(l...)
}

// scannedByHand: what is seen of cells in order, looked for among all of them.
func scannedByHand(l list, a api.Ask) list {
	var out list
	for i, c := range l {
		isHidden := slices.ContainsFunc(l[:i], func(o api.Cell) bool { return samePlace(o, c) && o.Time <= a.Time })
		if c.Time <= a.Time && !isHidden && !c.Gone && c.Row >= a.From && (a.To == "" || c.Row < a.To) {
			out = append(out, c)
		}
	}
	return out[:min(len(out), a.Many)]
}

// compactByHand: what is left of cells in order, looked for among all of them.
func compactByHand(l list, since int, whole bool) list {
	var out list
	for i, c := range l {
		isHidden := slices.ContainsFunc(l[:i], func(o api.Cell) bool { return samePlace(o, c) && o.Time <= since })
		if c.Time <= since && isHidden || whole && c.Time <= since && c.Gone {
			continue
		}
		out = append(out, c)
	}
	return out
}

// deepClone: the tablet in new memory, without room behind its lists.
func deepClone(a api.Tablet) api.Tablet {
	a.Log.Bytes = slices.Clip(bytes.Clone(a.Log.Bytes))
	files := make([][]byte, len(a.Files))
	for i, b := range a.Files {
		files[i] = slices.Clip(bytes.Clone(b))
	}
	a.Files = files
	return a
}

// some: a tablet with two files, a note in the log that stands in the files, one that is kept and one that is not; Done and Since are 4.
func some() api.Tablet {
	notes := []api.Note{
		note(4, put("a", "c", 3, "four"), put("b", "c", 2, "four")),
		note(5, put("b", "c", 5, "five"), gone("c", "", 4)),
		note(6, gone("a", "c", 6), put("b", "c", 5, "six"), put("d", "", 6, "six")),
	}
	log := logByHand(notes...)
	log.Kept = len(logByHand(notes[:2]...).Bytes)
	return api.Tablet{
		Log: log,
		Files: filesOf(
			list{put("a", "c", 3, "four"), gone("b", "c", 4), put("b", "c", 2, "four")},
			list{put("b", "c", 2, "one"), put("b", "c", 1, "one"), put("c", "", 3, "one"), put("e", "", 0, "one")}),
		Done:  4,
		Since: 4,
	}
}

// cellsOfSome: the cells of some(), by hand.
func cellsOfSome() list {
	return list{
		gone("a", "c", 6), put("a", "c", 3, "four"),
		put("b", "c", 5, "six"), gone("b", "c", 4), put("b", "c", 2, "four"), put("b", "c", 1, "one"),
		gone("c", "", 4), put("c", "", 3, "one"),
		put("d", "", 6, "six"),
		put("e", "", 0, "one"),
	}
}
