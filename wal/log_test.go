package wal_test

import (
	"slices"
	"testing"

	"tabulary/api"
	"tabulary/wal"
)

// noteOfSize: a note of one cell whose frame has so many bytes.
func noteOfSize(t *testing.T, seq, size int) api.Note {
	t.Helper()
	for col := range api.MaxKey + 1 {
		// What is left for the value, whose length may need one byte more.
		room := size - 6 - len(byHand(note(seq, put("r", x(col), 7, ""))))
		for _, value := range []int{room, room - 1} {
			if value < 0 || value > api.MaxValue {
				continue
			}
			if n := note(seq, put("r", x(col), 7, x(value))); len(byHand(n))+6 == size {
				return n
			}
		}
	}
	t.Fatalf("no note has a frame of %d bytes", size)
	return api.Note{}
}

// notesOfSize: notes from the Seq 1 on whose log has so many bytes.
func notesOfSize(t *testing.T, size int) []api.Note {
	t.Helper()
	var out []api.Note
	for size > 0 {
		n := 250
		if size < 500 {
			n = size / 2
		}
		if size < 250 {
			n = size
		}
		out = append(out, noteOfSize(t, len(out)+1, n))
		size -= n
	}
	return out
}

func TestLog(t *testing.T) {
	some := someNotes()
	first := logByHand(some[0])
	for _, c := range []struct {
		what string
		d    api.Disk
		n    api.Note
		want api.Disk
	}{
		{"to nothing", api.Disk{}, note(1, put("r", "c", 7, "a")), api.Disk{Bytes: []byte{0, 9, 1, 1, 'r', 1, 'c', 7, 0, 1, 'a', 0x9C, 0x03, 0xC9, 0xF7}}},
		{"to no bytes", api.Disk{Bytes: []byte{}}, some[0], api.Disk{Bytes: first}},
		{"to nothing, a Seq above 1", api.Disk{}, some[3], api.Disk{Bytes: logByHand(some[3])}},
		{"to nothing, the greatest Seq", api.Disk{}, note(api.MaxNum, gone("r", "", 0)), api.Disk{Bytes: logByHand(note(api.MaxNum, gone("r", "", 0)))}},
		{"behind what is not kept", api.Disk{Bytes: first}, some[1], api.Disk{Bytes: logByHand(some[:2]...)}},
		{"behind what is kept in part", api.Disk{Bytes: first, Kept: 5}, some[1], api.Disk{Bytes: logByHand(some[:2]...), Kept: 5}},
		{"behind what is kept", api.Disk{Bytes: first, Kept: len(first)}, some[1], api.Disk{Bytes: logByHand(some[:2]...), Kept: len(first)}},
		{"behind several", api.Disk{Bytes: logByHand(some[:4]...), Kept: len(first)}, some[4], api.Disk{Bytes: logByHand(some...), Kept: len(first)}},
		{"the greatest Seq behind the one below",
			api.Disk{Bytes: logByHand(small(api.MaxNum-1, 1)...)}, small(api.MaxNum, 1)[0],
			api.Disk{Bytes: logByHand(note(api.MaxNum-1, put("r", "", 0, "")), note(api.MaxNum, put("r", "", 0, "")))}},
	} {
		d, f := wal.Log(c.d, c.n)
		wantDisk(t, "Log "+c.what, d, f, c.want)
	}
}

// TestLogOfMoreNotesThanAListHas: it is a log, too, though Replay has no room for its notes.
func TestLogOfMoreNotesThanAListHas(t *testing.T) {
	notes := small(1, 3*api.MaxList)
	for _, n := range []int{api.MaxList, api.MaxList + 1, 2 * api.MaxList} {
		d, f := wal.Log(api.Disk{Bytes: logByHand(notes[:n]...), Kept: 9}, notes[n])
		wantDisk(t, "Log", d, f, api.Disk{Bytes: logByHand(notes[:n+1]...), Kept: 9})
		d, f = wal.Log(d, notes[n])
		wantNoDisk(t, "Log of the last one again", d, f, fault(api.ErrState, 0))
	}
}

func TestLogTellsFirstWhatCheckSays(t *testing.T) {
	notes := append([]wrong{{n: note(3, put("r", "c", 1, ""))}, {n: note(9, put("r", "c", 1, ""))}}, wrongNotes()...)
	for _, c := range wrongDisks() {
		for _, n := range notes {
			d, f := wal.Log(c.d, n.n)
			wantNoDisk(t, "Log to a disk: "+c.what, d, f, c.want)
		}
	}
}

// TestLogTellsTheNotesOwnFaults: ahead of what is wrong with the log.
func TestLogTellsTheNotesOwnFaults(t *testing.T) {
	full := logByHand(notesOfSize(t, api.MaxBytes)...)
	for _, b := range [][]byte{nil, logByHand(small(1, 1)...), logByHand(small(api.MaxNum, 1)...), {1, 2, 3}, full, full[1:]} {
		for _, w := range wrongNotes() {
			d, f := wal.Log(api.Disk{Bytes: b}, w.n)
			wantNoDisk(t, "Log of "+w.what, d, f, w.want)
		}
	}
}

func TestLogToWhatIsNoLog(t *testing.T) {
	for _, c := range noLogs() {
		for _, seq := range []int{1, 2, 3, 4, 5, 8, api.MaxNum} {
			for _, kept := range []int{0, 1, len(c.b)} {
				d, f := wal.Log(api.Disk{Bytes: c.b, Kept: kept}, note(seq, put("r", "c", 1, "")))
				wantNoDisk(t, "Log to "+c.what, d, f, fault(api.ErrState, 0))
			}
		}
	}
}

func TestLogOfWhatDoesNotFollow(t *testing.T) {
	for _, last := range []int{1, 2, 127, 128, 1000, api.MaxNum - 1, api.MaxNum} {
		d := api.Disk{Bytes: logByHand(small(max(1, last-3), min(last, 4))...)}
		for _, seq := range []int{1, 2, last - 1, last, last + 2, last + 3, api.MaxNum} {
			if seq < 1 || seq > api.MaxNum || seq == last+1 {
				continue
			}
			got, f := wal.Log(d, note(seq, put("r", "c", 1, "")))
			wantNoDisk(t, "Log", got, f, fault(api.ErrState, 0))
		}
		got, f := wal.Log(d, note(last+1, put("r", "c", 1, "")))
		if last == api.MaxNum {
			wantNoDisk(t, "Log behind the greatest Seq", got, f, fault(api.ErrRange, -1))
		} else {
			wantFault(t, "Log of what follows", f, api.Fault{})
		}
	}
}

func TestLogThatIsFull(t *testing.T) {
	notes := notesOfSize(t, api.MaxBytes-100)
	next := len(notes) + 1
	b := logByHand(notes...)
	d := api.Disk{Bytes: b, Kept: 70}
	last := noteOfSize(t, next, 100)
	got, f := wal.Log(d, last)
	wantDisk(t, "Log up to the most", got, f, api.Disk{Bytes: append(slices.Clone(b), logByHand(last)...), Kept: 70})
	for _, size := range []int{101, 105, 106, 107, 250} {
		got, f := wal.Log(d, noteOfSize(t, next, size))
		wantNoDisk(t, "Log of a byte too many", got, f, fault(api.ErrMuch, 0))
		got, f = wal.Log(d, noteOfSize(t, next+1, size))
		wantNoDisk(t, "Log of what does not follow, told ahead", got, f, fault(api.ErrState, 0))
		got, f = wal.Log(api.Disk{Bytes: b[:len(b)-1]}, noteOfSize(t, next, size))
		wantNoDisk(t, "Log to no log, told ahead", got, f, fault(api.ErrState, 0))
	}
	full := logged(t, d, last)
	got, f = wal.Log(full, note(next+1, put("r", "", 0, "")))
	wantNoDisk(t, "Log to a full one", got, f, fault(api.ErrMuch, 0))
	got, f = wal.Log(full, note(next, put("r", "", 0, "")))
	wantNoDisk(t, "Log to a full one of what does not follow", got, f, fault(api.ErrState, 0))
}
