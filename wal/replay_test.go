package wal_test

import (
	"slices"
	"testing"

	"tabulary/api"
	"tabulary/disk"
	"tabulary/wal"
)

func TestReplay(t *testing.T) {
	for _, c := range []struct {
		what  string
		notes []api.Note
	}{
		{"nothing", nil},
		{"one note", small(1, 1)},
		{"notes", someNotes()},
		{"notes whose first Seq is 2", small(2, 3)},
		{"notes up to the greatest Seq", small(api.MaxNum-2, 3)},
		{"the most notes", small(1, api.MaxList)},
		{"the most notes, up to the greatest Seq", small(api.MaxNum-api.MaxList+1, api.MaxList)},
		{"the most bytes", notesOfSize(t, api.MaxBytes)},
	} {
		b := logByHand(c.notes...)
		for _, kept := range []int{0, len(b) / 3, len(b) / 2, len(b)} {
			wantReplay(t, "Replay of "+c.what, api.Disk{Bytes: b, Kept: kept}, len(b), c.notes)
		}
	}
	wantReplay(t, "Replay of no bytes", api.Disk{Bytes: []byte{}}, 0, nil)
}

func TestReplayTellsFirstWhatCheckSays(t *testing.T) {
	for _, c := range wrongDisks() {
		wantNoReplay(t, "Replay of a disk: "+c.what, c.d, c.want)
	}
}

func TestReplayOfWhatIsNoLog(t *testing.T) {
	for _, c := range noLogs() {
		size := len(logByHand(c.whole...))
		for _, kept := range []int{0, 1, size, len(c.b)} {
			wantReplay(t, "Replay of "+c.what, api.Disk{Bytes: c.b, Kept: kept}, size, c.whole)
		}
	}
	noise := make([]byte, api.MaxBytes)
	s := number(2)
	for i := range noise {
		noise[i] = byte(s.below(256))
	}
	wantReplay(t, "Replay of noise", api.Disk{Bytes: noise, Kept: api.MaxBytes}, 0, nil)
}

// TestReplayOfWhatIsCutOff: at each byte the notes that are whole are left, also if more was kept.
func TestReplayOfWhatIsCutOff(t *testing.T) {
	notes := someNotes()
	b := logByHand(notes...)
	at := ends(notes)
	whole := 0
	for k := range len(b) + 1 {
		if whole < len(notes) && k == at[whole+1] {
			whole++
		}
		for _, kept := range []int{0, k / 2, k} {
			wantReplay(t, "cut off", api.Disk{Bytes: b[:k], Kept: kept}, at[whole], notes[:whole])
		}
	}
}

// TestReplayOfWhatIsChanged: with a byte changed anywhere, the notes ahead of its frame are left.
func TestReplayOfWhatIsChanged(t *testing.T) {
	notes := someNotes()
	b := logByHand(notes...)
	at := ends(notes)
	whole := 0
	for k := range b {
		if k == at[whole+1] {
			whole++
		}
		changed := slices.Clone(b)
		changed[k] ^= 16
		wantReplay(t, "with a byte changed", api.Disk{Bytes: changed, Kept: k}, at[whole], notes[:whole])
	}
}

func TestReplayOfTooManyNotes(t *testing.T) {
	most := small(1, api.MaxList)
	b := logByHand(most...)
	more := func(tail ...byte) api.Disk { return api.Disk{Bytes: append(slices.Clone(b), tail...)} }
	want := fault(api.ErrMany, 0)
	next := logByHand(note(api.MaxList+1, put("r", "", 0, "")))
	wantNoReplay(t, "one note too many", more(next...), want)
	wantNoReplay(t, "one note too many, and a piece of a frame", more(append(next, 1, 2, 3)...), want)
	wantNoReplay(t, "far too many notes", api.Disk{Bytes: logByHand(small(7, 4*api.MaxList)...), Kept: 1}, want)
	// What is behind the log is no note of it, and not counted.
	wantReplay(t, "the most, and a piece of a frame", more(next[:len(next)-1]...), len(b), most)
	wantReplay(t, "the most, and one that does not follow", more(logByHand(small(5, 1)...)...), len(b), most)
	wantReplay(t, "the most, and bytes of no note", more(frameByHand([]byte{0})...), len(b), most)
}

// TestReplayedAgain: what is left is a log, and Replay changes nothing any more.
func TestReplayedAgain(t *testing.T) {
	for _, c := range noLogs() {
		left, notes, f := wal.Replay(api.Disk{Bytes: c.b})
		wantFault(t, "Replay", f, api.Fault{})
		wantReplay(t, "Replay of what is left", left, len(left.Bytes), notes)
		seq := 1
		if len(notes) > 0 {
			seq = notes[len(notes)-1].Seq + 1
		}
		if seq <= api.MaxNum {
			n := note(seq, put("r", "c", 1, ""))
			d := logged(t, left, n)
			wantReplay(t, "with one behind what is left", d, len(d.Bytes), append(notes, n))
		}
	}
}

// TestWhateverCrashComes: the first notes come back, at least those that were kept, and others are logged behind them.
func TestWhateverCrashComes(t *testing.T) {
	s := number(3)
	notes := anyNotes(&s, 1, 6)
	others := anyNotes(&s, 1, 12)
	at := ends(notes)
	for synced := range len(notes) + 1 {
		d := logged(t, api.Disk{}, notes[:synced]...)
		d, f := disk.Sync(d)
		wantFault(t, "Sync", f, api.Fault{})
		d = logged(t, d, notes[synced:]...)
		if d.Kept != at[synced] {
			t.Fatalf("%d bytes are kept, not %d", d.Kept, at[synced])
		}
		whole := synced
		for n := range len(d.Bytes) - d.Kept + 1 {
			crashed, f := disk.Crash(d, n)
			wantFault(t, "Crash", f, api.Fault{})
			if whole < len(notes) && d.Kept+n == at[whole+1] {
				whole++
			}
			wantReplay(t, "after a crash", crashed, at[whole], notes[:whole])
			left, back, _ := wal.Replay(crashed)
			left = logged(t, left, others[whole:whole+2]...)
			wantReplay(t, "with others behind", left, len(left.Bytes), append(back, others[whole:whole+2]...))
		}
	}
}

// TestManyCrashes: a log that is synced, crashes and is played again, over and over, has at each time what came back and what was logged since.
func TestManyCrashes(t *testing.T) {
	s := number(4)
	for range 20 {
		var d api.Disk
		var notes []api.Note
		kept, next := 0, 1+s.below(200)
		for step := range 60 {
			switch s.below(5) {
			case 0:
				d, _ = disk.Sync(d)
				kept = len(notes)
			case 1:
				crashed, f := disk.Crash(d, s.below(len(d.Bytes)-d.Kept+1))
				wantFault(t, "Crash", f, api.Fault{})
				left, back, f := wal.Replay(crashed)
				wantFault(t, "Replay", f, api.Fault{})
				if len(back) < kept || len(back) > len(notes) || !slices.EqualFunc(back, notes[:len(back)], sameNote) {
					t.Fatalf("at %d come back %d notes, of %d, of which %d are kept", step, len(back), len(notes), kept)
				}
				next -= len(notes) - len(back)
				d, notes, kept = left, back, len(back)
			default:
				n := anyNotes(&s, next, 1)[0]
				d = logged(t, d, n)
				notes = append(notes, n)
				next++
			}
		}
		wantReplay(t, "at the end", d, len(d.Bytes), notes)
	}
}
