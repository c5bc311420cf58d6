package tablet_test

import (
	"slices"
	"strconv"
	"testing"

	"tabulary/api"
	"tabulary/tablet"
)

// story: a tablet, all that was put into it and was not lost, and what is known of it by hand.
type story struct {
	t      *testing.T
	s      number
	a      api.Tablet
	put    []api.Note // from the Seq 1 on
	logged int        // so many of them, the last ones, are in the log
	sure   int        // so many of them, the first ones, were kept or flushed
}

// ends: how many bytes of the log there are up to the end of each note in it; first of all, 0.
func (y *story) ends() []int {
	out := []int{0}
	for _, n := range y.put[len(y.put)-y.logged:] {
		out = append(out, out[len(out)-1]+len(frameByHand(n)))
	}
	return out
}

func (y *story) doPut() {
	seq := len(y.put) + 1
	n := note(seq, anyList(&y.s, 1+y.s.below(8), y.a.Since, strconv.Itoa(seq)+":")...)
	y.a = wantPut(y.t, "a note", y.a, seq, n.Cells...)
	y.put = append(y.put, n)
	y.logged++
}

func (y *story) doSync() {
	then, f := tablet.Sync(y.a)
	wantFault(y.t, "Sync", f, api.Fault{})
	y.a, y.sure = then, len(y.put)
}

// doCrash: the notes that are whole are left, and those that were flushed.
func (y *story) doCrash() {
	n := y.s.below(len(y.a.Log.Bytes) - y.a.Log.Kept + 1)
	whole := 0
	for i, end := range y.ends() {
		if end <= y.a.Log.Kept+n {
			whole = i
		}
	}
	first := len(y.put) - y.logged
	last := max(first+whole, y.a.Done)
	then, f := tablet.Crash(y.a, n)
	want := y.a
	want.Log = kept(y.put[first : first+whole]...)
	if first+whole < y.a.Done {
		want.Log = api.Disk{}
	}
	wantTablet(y.t, "a crash", then, f, want)
	if last < y.sure {
		y.t.Errorf("the notes up to %d are left, %d were sure", last, y.sure)
	}
	y.put, y.sure = y.put[:last], last
	y.logged = min(first+whole, last) - first
	if len(want.Log.Bytes) == 0 {
		y.logged = 0
	}
	y.a = then
}

func (y *story) doFlush() {
	then, f := tablet.Flush(y.a, 50+y.s.below(200))
	switch {
	case y.a.Done == len(y.put):
		wantNoTablet(y.t, "nothing to flush", then, f, fault(api.ErrNone, 0))
	case len(y.a.Files) == api.MaxFiles:
		wantNoTablet(y.t, "no room to flush", then, f, fault(api.ErrMany, -2))
	default:
		wantFault(y.t, "Flush", f, api.Fault{})
		if then.Done != len(y.put) {
			y.t.Errorf("done is %d of %d", then.Done, len(y.put))
		}
		y.a, y.sure = then, len(y.put)
	}
}

func (y *story) doCut() {
	then, f := tablet.Cut(y.a)
	want := y.a
	want.Log = kept(y.put[y.a.Done:]...)
	wantTablet(y.t, "a cut", then, f, want)
	y.logged, y.sure = len(y.put)-y.a.Done, len(y.put)
	y.a = then
}

func (y *story) doCompact() {
	if len(y.a.Files) == 0 {
		return
	}
	at := y.s.below(len(y.a.Files))
	since := max(y.a.Since+y.s.below(4)-2, 0)
	then, f := tablet.Compact(y.a, at, since, 50+y.s.below(200))
	wantFault(y.t, "Compact", f, api.Fault{})
	if len(then.Files) != at+1 || then.Since != max(since, y.a.Since) {
		y.t.Errorf("%d files, since %d", len(then.Files), then.Since)
	}
	y.a = then
}

// look: at times that are not closed, what is seen is what was put; and of times that are, it is told.
func (y *story) look() {
	y.t.Helper()
	all := appliedByHand(y.put...)
	for time := y.a.Since; time < y.a.Since+8; time++ {
		ask := api.Ask{Time: time, Many: api.MaxList}
		wantScan(y.t, "what was put", y.a, ask, scannedByHand(all, ask))
	}
	ask := api.Ask{Time: api.MaxNum, Many: api.MaxList}
	seen := scannedByHand(all, ask)
	wantScan(y.t, "what was put, at the end of time", y.a, ask, seen)
	for _, c := range seen {
		wantGot(y.t, "what was put", y.a, c.Row, c.Col, api.MaxNum, c.Value, true)
	}
	if y.a.Since > 0 {
		wantNotScanned(y.t, "a closed time", y.a, api.Ask{Time: y.a.Since - 1}, fault(api.ErrStale, -1))
	}
}

// TestWhateverHappens: puts, syncs, crashes, flushes, cuts and compacts in whatever order.
func TestWhateverHappens(t *testing.T) {
	for seed := range 30 {
		y := story{t: t, s: number(seed)}
		for range 80 {
			switch y.s.below(12) {
			case 0:
				y.doSync()
			case 1:
				y.doCrash()
			case 2, 3:
				y.doFlush()
			case 4:
				y.doCut()
			case 5, 6:
				y.doCompact()
			default:
				y.doPut()
			}
			y.look()
			if t.Failed() {
				t.Fatalf("the story %d goes wrong", seed)
			}
		}
	}
}

// TestWhatWasKeptIsNotLost: at each n of a Crash all that was kept or flushed is seen, and of the rest the first notes.
func TestWhatWasKeptIsNotLost(t *testing.T) {
	var a api.Tablet
	var puts []api.Note
	s := number(8)
	for seq := 1; seq <= 6; seq++ {
		n := note(seq, anyList(&s, 5, 0, strconv.Itoa(seq)+":")...)
		a = wantPut(t, "a note", a, seq, n.Cells...)
		puts = append(puts, n)
		var f api.Fault
		switch seq {
		case 2:
			a, f = tablet.Flush(a, 50)
		case 4:
			a, f = tablet.Sync(a)
		}
		wantFault(t, "a step", f, api.Fault{})
	}
	last := 4
	for n := range len(a.Log.Bytes) - a.Log.Kept + 1 {
		if last < len(puts) && a.Log.Kept+n == len(logByHand(puts[:last+1]...).Bytes) {
			last++
		}
		then, f := tablet.Crash(a, n)
		wantFault(t, "Crash", f, api.Fault{})
		for time := range 7 {
			ask := api.Ask{Time: time, Many: api.MaxList}
			wantScan(t, "what is left", then, ask, scannedByHand(appliedByHand(puts[:last]...), ask))
		}
		// The next note takes the place of the first one that was lost.
		wantPut(t, "a note behind a crash", then, last+1, put("r", "c", 3, "again"))
	}
}

// TestCompactDoesNotUncover: what is Gone in a file hides what is older, in memory or in a file ahead, at times from since on.
func TestCompactDoesNotUncover(t *testing.T) {
	a := api.Tablet{Files: filesOf(list{gone("r", "c", 5), put("r", "c", 1, "one")}), Done: 1}
	a = wantPut(t, "an older one", a, 2, put("r", "c", 3, "three"))
	a, f := tablet.Compact(a, 0, 7, 50)
	wantFault(t, "Compact", f, api.Fault{})
	wantGot(t, "with memory", a, "r", "c", 7, "", false)
	a, f = tablet.Flush(a, 50)
	wantFault(t, "Flush", f, api.Fault{})
	a, f = tablet.Compact(a, 1, 8, 50)
	wantFault(t, "Compact", f, api.Fault{})
	wantGot(t, "with a file ahead", a, "r", "c", 8, "", false)
	a, f = tablet.Compact(a, 0, 8, 50)
	wantTablet(t, "all of it", a, f, api.Tablet{Log: a.Log, Files: filesOf(nil), Done: 2, Since: 8})
	wantGot(t, "with nothing", a, "r", "c", 8, "", false)
}

// TestHalvesOfWhatWasPut: the parts from the row that Halve tells on, and ahead of it, have about as many rows, and are tablets into which can be put.
func TestHalvesOfWhatWasPut(t *testing.T) {
	s := number(5)
	for range 20 {
		a := anyTablet(&s)
		row, f := tablet.Halve(a)
		if f != (api.Fault{}) {
			wantFault(t, "Halve", f, fault(api.ErrNone, 0))
			continue
		}
		_, next, f := tablet.Put(a, list{put("r", "c", 99, "v")})
		wantFault(t, "Put", f, api.Fault{})
		var rows [2][]string
		for i, bounds := range [2][2]string{{"", row}, {row, ""}} {
			part, f := tablet.Part(a, bounds[0], bounds[1], 50)
			wantFault(t, "Part", f, api.Fault{})
			wantPut(t, "into a part", part, next, put("r", "c", 99, "v"))
			for _, c := range openedByHand(t, part) {
				rows[i] = append(rows[i], c.Row)
			}
			rows[i] = slices.Compact(rows[i])
		}
		if d := len(rows[1]) - len(rows[0]); d != 0 && d != 1 || rows[1][0] != row {
			t.Errorf("at %q are %d rows ahead, and %d from it on", row, len(rows[0]), len(rows[1]))
		}
	}
}
