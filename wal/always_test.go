package wal_test

import (
	"bytes"
	"fmt"
	"math"
	"slices"
	"testing"

	"tabulary/api"
	"tabulary/wal"
)

// everyCall: what all calls answer.
func everyCall(d api.Disk, l list, notes []api.Note) string {
	n, f1 := wal.Read(d.Bytes)
	left, back, f2 := wal.Replay(d)
	cells, f3 := wal.Apply(l, notes)
	said := fmt.Sprintln(n, f1, left, back, f2, cells, f3)
	for _, n := range notes[:min(len(notes), 3)] {
		b, f4 := wal.Write(n)
		then, f5 := wal.Log(d, n)
		said += fmt.Sprintln(b, f4, then, f5)
	}
	return said
}

// TestNoCallPanics: disks, cells and notes of all kinds, and twice the same is answered.
func TestNoCallPanics(t *testing.T) {
	s := number(7)
	disks := []api.Disk{{}, {Bytes: []byte{}}, {Kept: 1}, {Kept: math.MinInt}, {Bytes: logByHand(small(1, 1001)...)}}
	for _, c := range wrongDisks() {
		disks = append(disks, c.d)
	}
	for _, c := range noLogs() {
		disks = append(disks, api.Disk{Bytes: c.b, Kept: s.below(len(c.b) + 1)})
	}
	for range 100 {
		b := logByHand(anyNotes(&s, 1, 2)...)
		b[s.below(len(b))] = byte(s.below(256))
		disks = append(disks, api.Disk{Bytes: b}, api.Disk{Bytes: b[2:]})
	}
	lists := []list{nil, {}, make(list, 3), rising(0, 5)}
	for _, w := range wrongLists() {
		lists = append(lists, w.l)
	}
	notes := [][]api.Note{nil, {}, make([]api.Note, 3), someNotes(), small(3, 2), make([]api.Note, api.MaxList+1)}
	for _, w := range wrongNotes() {
		notes = append(notes, []api.Note{w.n}, []api.Note{note(3, put("r", "c", 1, "")), w.n})
	}
	for i := range max(len(disks), len(lists), len(notes)) {
		d, l, n := disks[i%len(disks)], lists[i%len(lists)], notes[i%len(notes)]
		if first, then := everyCall(d, l, n), everyCall(d, l, n); first != then {
			t.Errorf("at %d is answered %s, then %s", i, first, then)
		}
	}
}

// TestArgumentsStay: nothing that is handed in is written to, nor what lies behind its length; and that is not read.
func TestArgumentsStay(t *testing.T) {
	s := number(8)
	for range 60 {
		b := logByHand(anyNotes(&s, 1, 3)...)
		l := anyList(&s, 30, "was:")
		notes := anyNotes(&s, 4, 5)
		oldBytes, oldCells, oldNotes := bytes.Clone(b), slices.Clone(l), deepClone(notes)
		size := len(b)
		if s.below(2) == 0 {
			size = s.below(len(b))
		}
		d := api.Disk{Bytes: b[:size], Kept: s.below(size + 1)}
		few := l[:s.below(len(l)+1)]
		short := slices.Clone(notes)
		for i, n := range short {
			short[i].Cells = n.Cells[:1+s.below(len(n.Cells))]
		}
		short = short[:s.below(len(short)+1)]
		alone := everyCall(api.Disk{Bytes: slices.Clip(bytes.Clone(d.Bytes)), Kept: d.Kept}, slices.Clip(slices.Clone(few)), deepClone(short))
		if full := everyCall(d, few, short); full != alone {
			t.Errorf("with room behind is answered %s, alone %s", full, alone)
		}
		wantBytes(t, "an argument", b, api.Fault{}, oldBytes)
		wantCells(t, "an argument", l, api.Fault{}, oldCells)
		for i := range notes {
			wantNote(t, "an argument", notes[i], api.Fault{}, oldNotes[i])
		}
	}
}

// spoilBytes changes all bytes, also behind the length.
func spoilBytes(b []byte) {
	b = b[:cap(b)]
	for i := range b {
		b[i] ^= 255
	}
}

// spoilCells changes all cells, also behind the length.
func spoilCells(l list) {
	l = l[:cap(l)]
	for i := range l {
		l[i] = put("spoiled", "", 0, "")
	}
}

// TestBytesAnsweredAreNewMemory: a change to an answer changes no argument, and the other way round.
func TestBytesAnsweredAreNewMemory(t *testing.T) {
	some := someNotes()
	for _, notes := range [][]api.Note{nil, some[:1], some[:4]} {
		b := make([]byte, 0, api.MaxBytes)
		d := api.Disk{Bytes: append(b, logByHand(notes...)...), Kept: 0}
		n := some[len(notes)]
		before := bytes.Clone(d.Bytes)
		then, f1 := wal.Log(d, n)
		left, back, f2 := wal.Replay(d)
		written, f3 := wal.Write(n)
		oldThen, oldLeft, oldWritten, oldBack := bytes.Clone(then.Bytes), bytes.Clone(left.Bytes), bytes.Clone(written), deepClone(back)
		spoilBytes(d.Bytes[:len(d.Bytes):len(d.Bytes)])
		wantBytes(t, "what Log answers", then.Bytes, f1, oldThen)
		wantBytes(t, "what Replay answers", left.Bytes, f2, oldLeft)
		spoilBytes(d.Bytes[:len(d.Bytes):len(d.Bytes)])
		for i := range back {
			wantNote(t, "what Replay answers", back[i], f2, oldBack[i])
		}
		spoilBytes(then.Bytes)
		spoilBytes(left.Bytes)
		wantBytes(t, "what Write answers", written, f3, oldWritten)
		spoilBytes(written)
		wantBytes(t, "an argument", d.Bytes, api.Fault{}, before)
		wantNote(t, "an argument", n, api.Fault{}, someNotes()[len(notes)])
	}
}

// TestCellsAnsweredAreNewMemory: also each note of an answer has its own.
func TestCellsAnsweredAreNewMemory(t *testing.T) {
	notes := someNotes()
	_, back, f := wal.Replay(api.Disk{Bytes: logByHand(notes...)})
	wantFault(t, "Replay", f, api.Fault{})
	for i := range back {
		wantNote(t, "a note behind others that are spoiled", back[i], api.Fault{}, notes[i])
		spoilCells(back[i].Cells)
	}
	b := byHand(notes[1])
	n, f := wal.Read(b)
	spoilBytes(b)
	wantNote(t, "what Read answers", n, f, notes[1])

	for _, c := range []struct {
		l     list
		notes []api.Note
	}{
		{rising(0, 5), nil}, {nil, notes[:1]}, {rising(0, 5), notes}, {edges(), []api.Note{notes[1]}},
	} {
		want := appliedByHand(c.l, c.notes)
		l, in := slices.Clip(slices.Clone(c.l)), deepClone(c.notes)
		got, f := wal.Apply(l, in)
		spoilCells(l)
		for _, n := range in {
			spoilCells(n.Cells)
		}
		wantCells(t, "what Apply answers", got, f, want)
		l, in = append(make(list, 0, 99), c.l...), deepClone(c.notes)
		got, _ = wal.Apply(l, in)
		spoilCells(got)
		wantCells(t, "an argument", l, api.Fault{}, c.l)
		for i := range in {
			wantNote(t, "an argument", in[i], api.Fault{}, c.notes[i])
		}
	}
}
