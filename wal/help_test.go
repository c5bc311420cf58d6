package wal_test

import (
	"bytes"
	"cmp"
	"encoding/binary"
	"hash/crc32"
	"math"
	"slices"
	"strconv"
	"strings"
	"testing"

	"tabulary/api"
	"tabulary/wal"
)

type list = []api.Cell

func fault(code, at int) api.Fault { return api.Fault{Code: code, At: at} }

// put: a cell with a value.
func put(row, col string, time int, value string) api.Cell {
	return api.Cell{Row: row, Col: col, Time: time, Value: value}
}

// gone: a cell that is Gone.
func gone(row, col string, time int) api.Cell {
	return api.Cell{Row: row, Col: col, Time: time, Gone: true}
}

func note(seq int, cells ...api.Cell) api.Note { return api.Note{Seq: seq, Cells: cells} }

func x(n int) string { return strings.Repeat("x", n) }

// cut keeps what a failing test tells readable.
func cut[T any](l []T) []T { return l[:min(len(l), 20)] }

func wantFault(t *testing.T, what string, got, want api.Fault) {
	t.Helper()
	if got != want {
		t.Errorf("%s: fault %v, want %v", what, got, want)
	}
}

// wantBytes: no fault, and just these bytes.
func wantBytes(t *testing.T, what string, got []byte, f api.Fault, want []byte) {
	t.Helper()
	wantFault(t, what, f, api.Fault{})
	if !bytes.Equal(got, want) {
		t.Errorf("%s: %d bytes %v, want %d %v", what, len(got), cut(got), len(want), cut(want))
	}
}

// wantCells: no fault, and just these cells.
func wantCells(t *testing.T, what string, got list, f api.Fault, want list) {
	t.Helper()
	wantFault(t, what, f, api.Fault{})
	if !slices.Equal(got, want) {
		t.Errorf("%s: %d cells %v, want %d %v", what, len(got), cut(got), len(want), cut(want))
	}
}

// wantNoCells: just this fault, and no cells.
func wantNoCells(t *testing.T, what string, got list, f, want api.Fault) {
	t.Helper()
	wantFault(t, what, f, want)
	if len(got) != 0 {
		t.Errorf("%s: %d cells beside a fault", what, len(got))
	}
}

func sameNote(a, b api.Note) bool { return a.Seq == b.Seq && slices.Equal(a.Cells, b.Cells) }

// wantNote: no fault, and just this note.
func wantNote(t *testing.T, what string, got api.Note, f api.Fault, want api.Note) {
	t.Helper()
	wantFault(t, what, f, api.Fault{})
	if !sameNote(got, want) {
		t.Errorf("%s: note %d of %v, want %d of %v", what, got.Seq, cut(got.Cells), want.Seq, cut(want.Cells))
	}
}

// wantNoNote: just this fault, and a note that is zero.
func wantNoNote(t *testing.T, what string, got api.Note, f, want api.Fault) {
	t.Helper()
	wantFault(t, what, f, want)
	if !sameNote(got, api.Note{}) {
		t.Errorf("%s: note %d of %d cells beside a fault", what, got.Seq, len(got.Cells))
	}
}

// wantDisk: no fault, and just this disk.
func wantDisk(t *testing.T, what string, got api.Disk, f api.Fault, want api.Disk) {
	t.Helper()
	wantFault(t, what, f, api.Fault{})
	if !bytes.Equal(got.Bytes, want.Bytes) || got.Kept != want.Kept {
		t.Errorf("%s: %v, %d kept, of %d; want %v, %d kept, of %d", what,
			cut(got.Bytes), got.Kept, len(got.Bytes), cut(want.Bytes), want.Kept, len(want.Bytes))
	}
}

// wantNoDisk: just this fault, and a disk that is zero.
func wantNoDisk(t *testing.T, what string, got api.Disk, f, want api.Fault) {
	t.Helper()
	wantFault(t, what, f, want)
	if len(got.Bytes) != 0 || got.Kept != 0 {
		t.Errorf("%s: %d bytes, %d kept, beside a fault", what, len(got.Bytes), got.Kept)
	}
}

// wantReplay: no fault, just these notes, and the disk's first bytes, so many, all kept.
func wantReplay(t *testing.T, what string, d api.Disk, size int, want []api.Note) {
	t.Helper()
	left, notes, f := wal.Replay(d)
	wantDisk(t, what, left, f, api.Disk{Bytes: d.Bytes[:size], Kept: size})
	if !slices.EqualFunc(notes, want, sameNote) {
		t.Errorf("%s: %d notes %v, want %d %v", what, len(notes), cut(notes), len(want), cut(want))
	}
}

// wantNoReplay: just this fault, no notes, and a disk that is zero.
func wantNoReplay(t *testing.T, what string, d api.Disk, want api.Fault) {
	t.Helper()
	left, notes, f := wal.Replay(d)
	wantNoDisk(t, what, left, f, want)
	if len(notes) != 0 {
		t.Errorf("%s: %d notes beside a fault", what, len(notes))
	}
}

// logged: the log with the notes behind it; no fault must be told.
func logged(t *testing.T, d api.Disk, notes ...api.Note) api.Disk {
	t.Helper()
	for _, n := range notes {
		var f api.Fault
		d, f = wal.Log(d, n)
		wantFault(t, "Log", f, api.Fault{})
	}
	return d
}

func textByHand(out []byte, s string) []byte {
	return append(binary.AppendUvarint(out, uint64(len(s))), s...)
}

// cellsByHand: the bytes of cells, whatever is wrong with them, by the library's numbers.
func cellsByHand(cells ...api.Cell) []byte {
	var out []byte
	for _, c := range cells {
		out = textByHand(textByHand(out, c.Row), c.Col)
		out = binary.AppendUvarint(out, uint64(c.Time))
		isGone := byte(0)
		if c.Gone {
			isGone = 1
		}
		out = textByHand(append(out, isGone), c.Value)
	}
	return out
}

// byHand: the bytes of a note, whatever is wrong with it.
func byHand(n api.Note) []byte {
	return append(binary.AppendUvarint(nil, uint64(n.Seq)), cellsByHand(n.Cells...)...)
}

// frameByHand: by the library's sum.
func frameByHand(body []byte) []byte {
	out := append(binary.BigEndian.AppendUint16(nil, uint16(len(body))), body...)
	return binary.BigEndian.AppendUint32(out, crc32.ChecksumIEEE(out))
}

// logByHand: the frames of notes, whatever is wrong with them.
func logByHand(notes ...api.Note) []byte {
	var out []byte
	for _, n := range notes {
		out = append(out, frameByHand(byHand(n))...)
	}
	return out
}

// rising: n cells in order, each of a row of its own, the first one with this number.
func rising(from, n int) list {
	out := make(list, n)
	for i := range out {
		out[i] = put("row"+strconv.Itoa(100000+from+i), "c", (from+i)%7, "v"+strconv.Itoa(from+i))
	}
	return out
}

// small: n notes of one small cell each that follow one another, the first one with this Seq.
func small(from, n int) []api.Note {
	out := make([]api.Note, n)
	for i := range out {
		out[i] = note(from+i, put("r", "", i%5, ""))
	}
	return out
}

// dealt: the cells, so many a note, in notes from the Seq 1 on.
func dealt(l list, many int) []api.Note {
	var out []api.Note
	for cells := range slices.Chunk(l, many) {
		out = append(out, note(len(out)+1, cells...))
	}
	return out
}

// edges: cells at the edges of what may be, in order.
func edges() list {
	return list{
		put("\x00", "", 0, ""),
		put("r", "", api.MaxNum, "v"),
		gone("r", "", 0),
		put("r", "c", 300, x(api.MaxValue)),
		put("r", x(api.MaxKey), 1, ""),
		put("rr", "c", 1, "\x00\xff"),
		put(x(api.MaxKey), x(api.MaxKey), api.MaxNum, x(api.MaxValue)),
		gone(x(api.MaxKey), x(api.MaxKey), api.MaxNum-1),
		gone(strings.Repeat("\xff", api.MaxKey), "c", api.MaxNum),
	}
}

// someNotes: notes of several sizes that follow one another from the Seq 126 on, so that the later Seqs need two bytes.
func someNotes() []api.Note {
	return []api.Note{
		note(126, put("r", "c", 7, "a")),
		note(127, edges()...),
		note(128, gone("r", "c", 8)),
		note(129, rising(0, api.MaxBatch)...),
		note(130, put("b", "", 0, "")),
	}
}

// ends: how many bytes of the notes' log there are up to each note's end; first of all, 0.
func ends(notes []api.Note) []int {
	out := []int{0}
	for i := range notes {
		out = append(out, len(logByHand(notes[:i+1]...)))
	}
	return out
}

// number makes numbers below n that look like nothing, the same ones in each run.
type number uint32

func (s *number) below(n int) int {
	*s = *s*1664525 + 1013904223
	return int(*s>>16) % n
}

// sameOrder: by the library, what chapter 3 calls in order.
func sameOrder(a, b api.Cell) int {
	return cmp.Or(bytes.Compare([]byte(a.Row), []byte(b.Row)), bytes.Compare([]byte(a.Col), []byte(b.Col)), b.Time-a.Time)
}

func sameKey(a, b api.Cell) bool { return a.Row == b.Row && a.Col == b.Col && a.Time == b.Time }

// anyList: at most n cells in order, of few rows, columns and times, some of them Gone; mark is in each value.
func anyList(s *number, n int, mark string) list {
	rows := []string{"a", "aa", "ab", "b", "\x00", "\xff", "é"}
	cols := []string{"", "aa", "b", "\xff"}
	times := []int{0, 1, 2, 127, 128, 5, api.MaxNum}
	out := make(list, n)
	for i := range out {
		out[i] = put(rows[s.below(len(rows))], cols[s.below(len(cols))], times[s.below(len(times))], mark+strconv.Itoa(i))
		if s.below(4) == 0 {
			out[i].Gone, out[i].Value = true, ""
		}
	}
	slices.SortStableFunc(out, sameOrder)
	return slices.CompactFunc(out, sameKey)
}

// anyNotes: n notes that follow one another; each value tells its note.
func anyNotes(s *number, from, n int) []api.Note {
	out := make([]api.Note, n)
	for i := range out {
		out[i] = note(from+i, anyList(s, 1+s.below(api.MaxBatch), strconv.Itoa(from+i)+":")...)
	}
	return out
}

// appliedByHand: what Apply promises: of the cells with one Row, Col and Time the last one, by the library's stable sort.
func appliedByHand(l list, notes []api.Note) list {
	out := slices.Clone(l)
	for _, n := range notes {
		out = append(out, n.Cells...)
	}
	slices.Reverse(out)
	slices.SortStableFunc(out, sameOrder)
	return slices.CompactFunc(out, sameKey)
}

// deepClone: the notes in new memory, without room behind their cells.
func deepClone(notes []api.Note) []api.Note {
	out := make([]api.Note, len(notes))
	for i, n := range notes {
		out[i] = note(n.Seq, slices.Clip(slices.Clone(n.Cells))...)
	}
	return out
}

// wrongCells: of which chapter 3's Check tells this fault; few enough for a note.
func wrongCells() []struct {
	what string
	l    list
	want api.Fault
} {
	good := put("r", "c", 2, "v")
	most := rising(0, api.MaxBatch)
	last := func(c api.Cell) list { return append(slices.Clone(most[:api.MaxBatch-1]), c) }
	return []struct {
		what string
		l    list
		want api.Fault
	}{
		{"a Row of no bytes", list{put("", "c", 1, "v")}, fault(api.ErrSize, 0)},
		{"a cell that is zero, the last of the most", last(api.Cell{}), fault(api.ErrSize, api.MaxBatch-1)},
		{"a Row that is too long", list{good, put(x(api.MaxKey+1), "c", 1, "v")}, fault(api.ErrSize, 1)},
		{"a Col that is too long", list{put("r", x(api.MaxKey+1), 1, "v")}, fault(api.ErrSize, 0)},
		{"a Value that is too long", list{put("r", "c", 1, x(api.MaxValue+1))}, fault(api.ErrSize, 0)},
		{"a huge Value", list{put("r", "c", 1, x(1<<20))}, fault(api.ErrSize, 0)},
		{"Time below 0", list{put("r", "c", -1, "v")}, fault(api.ErrRange, 0)},
		{"Time above MaxNum", list{good, put("s", "c", api.MaxNum+1, "v")}, fault(api.ErrRange, 1)},
		{"the least Time", list{put("r", "c", math.MinInt, "v")}, fault(api.ErrRange, 0)},
		{"Gone, with a Value", list{good, {Row: "s", Gone: true, Value: "v"}}, fault(api.ErrForm, 1)},
		{"one cell twice", list{good, good}, fault(api.ErrTwice, 1)},
		{"one Row, Col and Time, once Gone", list{good, gone("r", "c", 2)}, fault(api.ErrTwice, 1)},
		{"older ahead of newer", list{put("r", "c", 1, "v"), good}, fault(api.ErrTwice, 1)},
		{"columns the wrong way", list{put("r", "d", 1, "v"), good}, fault(api.ErrTwice, 1)},
		{"rows the wrong way", list{put("a", "", 0, ""), put("s", "c", 1, "v"), good}, fault(api.ErrTwice, 2)},
		{"the order, at the last of the most", last(most[0]), fault(api.ErrTwice, api.MaxBatch-1)},
		{"two faults, of which the first is told", list{good, good, {}}, fault(api.ErrTwice, 1)},
		{"two faults, the other way round", list{put("r", "c", -1, "v"), {}, good}, fault(api.ErrRange, 0)},
	}
}

// wrongLists: of which chapter 3's Check tells this fault, also by their number.
func wrongLists() []struct {
	what string
	l    list
	want api.Fault
} {
	return append(wrongCells(), []struct {
		what string
		l    list
		want api.Fault
	}{
		{"one cell too many", rising(0, api.MaxList+1), fault(api.ErrMany, 0)},
		{"too many cells, all of them wrong", make(list, 1<<16), fault(api.ErrMany, 0)},
		{"the order, behind many", append(rising(0, 500), rising(0, 1)...), fault(api.ErrTwice, 500)},
		{"a cell that is zero, the last of the most", append(rising(0, api.MaxList-1), api.Cell{}), fault(api.ErrSize, api.MaxList-1)},
	}...)
}

// wrong: a note, and what its own fault is.
type wrong struct {
	what string
	n    api.Note
	want api.Fault
}

func wrongNotes() []wrong {
	good := put("r", "c", 2, "v")
	var out []wrong
	for _, seq := range []int{0, -1, math.MinInt, api.MaxNum + 1, math.MaxInt} {
		of := "Seq " + strconv.Itoa(seq)
		out = append(out,
			wrong{of, note(seq, good), fault(api.ErrRange, -1)},
			wrong{of + ", told ahead of no cells", note(seq), fault(api.ErrRange, -1)},
			wrong{of + ", told ahead of many cells", note(seq, rising(0, api.MaxBatch+1)...), fault(api.ErrRange, -1)},
			wrong{of + ", told ahead of a cell's fault", note(seq, api.Cell{}), fault(api.ErrRange, -1)})
	}
	for _, seq := range []int{1, 2, api.MaxNum} {
		of := " of the note " + strconv.Itoa(seq)
		out = append(out,
			wrong{"no cells" + of, note(seq), fault(api.ErrMany, -1)},
			wrong{"no cells, yet a list," + of, api.Note{Seq: seq, Cells: list{}}, fault(api.ErrMany, -1)},
			wrong{"one cell too many" + of, note(seq, rising(0, api.MaxBatch+1)...), fault(api.ErrMany, -1)},
			wrong{"one cell more than a list has" + of, note(seq, rising(0, api.MaxList+1)...), fault(api.ErrMany, -1)},
			wrong{"too many cells, told ahead of their faults," + of, note(seq, make(list, api.MaxBatch+1)...), fault(api.ErrMany, -1)},
			wrong{"too many cells, told ahead of their order," + of, note(seq, slices.Repeat(list{good}, 30)...), fault(api.ErrMany, -1)})
		for _, w := range wrongCells() {
			out = append(out, wrong{w.what + of, note(seq, w.l...), w.want})
		}
	}
	return out
}

// wrongDisks: each with what chapter 2's Check says of it.
func wrongDisks() []struct {
	what string
	d    api.Disk
	want api.Fault
} {
	b := logByHand(small(1, 2)...)
	long := make([]byte, api.MaxBytes+1)
	copy(long, b)
	return []struct {
		what string
		d    api.Disk
		want api.Fault
	}{
		{"one byte too long", api.Disk{Bytes: long}, fault(api.ErrSize, 0)},
		{"a log that is too long", api.Disk{Bytes: logByHand(small(1, 4500)...)}, fault(api.ErrSize, 0)},
		{"too long, told ahead of Kept", api.Disk{Bytes: long, Kept: -1}, fault(api.ErrSize, 0)},
		{"too long, told ahead of Kept beyond", api.Disk{Bytes: long, Kept: len(long) + 1}, fault(api.ErrSize, 0)},
		{"Kept below 0", api.Disk{Bytes: b, Kept: -1}, fault(api.ErrRange, 0)},
		{"Kept beyond", api.Disk{Bytes: b, Kept: len(b) + 1}, fault(api.ErrRange, 0)},
		{"Kept beyond nothing", api.Disk{Kept: 1}, fault(api.ErrRange, 0)},
		{"Kept far below 0", api.Disk{Bytes: b, Kept: math.MinInt}, fault(api.ErrRange, 0)},
		{"Kept far beyond", api.Disk{Bytes: b, Kept: math.MaxInt}, fault(api.ErrRange, 0)},
		{"Kept behind the length", api.Disk{Bytes: b[:20], Kept: len(b)}, fault(api.ErrRange, 0)},
		{"Kept beyond, told ahead of no log", api.Disk{Bytes: b[:20], Kept: 21}, fault(api.ErrRange, 0)},
	}
}

// noLog: bytes that are no log, and how many of the notes at their beginning are one.
type noLog struct {
	what  string
	b     []byte
	whole []api.Note
}

func noLogs() []noLog {
	good := put("r", "c", 2, "v")
	first := small(1, 2)
	var out []noLog
	// behind: the bytes alone, and behind two notes.
	behind := func(what string, b []byte) {
		out = append(out, noLog{what, b, nil}, noLog{what + ", behind notes", append(logByHand(first...), b...), first})
	}
	frame := logByHand(note(3, good))
	turned := slices.Clone(frame)
	turned[len(turned)-1] ^= 1
	changed := slices.Clone(frame)
	changed[4] ^= 1
	behind("one byte", []byte{0})
	behind("a frame's head", frame[:2])
	behind("a frame without its last byte", frame[:len(frame)-1])
	behind("a frame with another sum", turned)
	behind("a frame with another body", changed)
	behind("a note's bytes without a frame", byHand(note(3, good)))
	behind("noughts", make([]byte, 100))
	for what, body := range map[string][]byte{
		"no bytes":              {},
		"a number that goes on": {131},
		"a number too long":     {131, 0},
		"a number too great":    {129, 148, 235, 220, 3},
		"a number alone":        {3},
		"the Seq 0":             byHand(note(0, good)),
		"too many cells":        byHand(note(3, rising(0, api.MaxBatch+1)...)),
		"cells out of order":    byHand(note(3, good, good)),
		"a cell that is zero":   byHand(note(3, api.Cell{})),
		"a Time too great":      byHand(note(3, put("r", "c", api.MaxNum+1, ""))),
		"Gone, with a Value":    byHand(note(3, api.Cell{Row: "r", Gone: true, Value: "v"})),
		"a cell that is cut":    byHand(note(3, good))[:7],
		"a cell and a byte":     append(byHand(note(3, good)), 0),
	} {
		behind("a frame of "+what, frameByHand(body))
		behind("a frame of "+what+", ahead of a note", append(frameByHand(body), frame...))
	}
	for _, seq := range []int{1, 2, 4, 128, api.MaxNum} {
		out = append(out, noLog{"a note that does not follow: " + strconv.Itoa(seq), logByHand(append(first, note(seq, good))...), first})
	}
	last := []api.Note{note(api.MaxNum, good)}
	return append(out,
		noLog{"the note 1 behind MaxNum", logByHand(last[0], note(1, good)), last},
		noLog{"a Seq above MaxNum", logByHand(last[0], note(api.MaxNum+1, good)), last},
		noLog{"a note that does not follow, ahead of one that does", logByHand(first[0], note(7, good), first[1]), first[:1]},
		noLog{"the two notes the wrong way round", logByHand(first[1], first[0]), first[1:]})
}
