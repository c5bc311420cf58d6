package tablet_test

import (
	"math"
	"slices"
	"testing"

	"tabulary/api"
	"tabulary/tablet"
)

// wantPut: no fault, the Seq that is 1 above the last, and the note behind the log, with all else as it was.
func wantPut(t *testing.T, what string, a api.Tablet, seq int, cells ...api.Cell) api.Tablet {
	t.Helper()
	then, got, f := tablet.Put(a, cells)
	want := a
	want.Log.Bytes = slices.Concat(a.Log.Bytes, frameByHand(note(seq, cells...)))
	wantTablet(t, what, then, f, want)
	if got != seq {
		t.Errorf("%s: the note %d, want %d", what, got, seq)
	}
	return then
}

// wantNotPut: just this fault.
func wantNotPut(t *testing.T, what string, a api.Tablet, cells list, want api.Fault) {
	t.Helper()
	then, seq, f := tablet.Put(a, cells)
	wantNoTablet(t, what, then, f, want)
	if seq != 0 {
		t.Errorf("%s: %d beside a fault", what, seq)
	}
}

func TestPut(t *testing.T) {
	cell := put("r", "c", 7, "a")
	a := wantPut(t, "of nothing", api.Tablet{}, 1, cell)
	if want := (api.Disk{Bytes: []byte{0, 9, 1, 1, 'r', 1, 'c', 7, 0, 1, 'a'}}); !slices.Equal(a.Log.Bytes[:11], want.Bytes) {
		t.Errorf("the log begins with %v", a.Log.Bytes[:11])
	}
	a = wantPut(t, "the same again", a, 2, cell)
	a = wantPut(t, "an older one", a, 3, put("r", "c", 0, "b"), put("s", "", api.MaxNum, ""))
	a = wantPut(t, "the most cells", a, 4, rising(0, api.MaxBatch)...)
	wantPut(t, "behind some", some(), 7, cell)
	wantPut(t, "of a tablet without a log", api.Tablet{Done: 300, Files: filesOf(rising(0, 3))}, 301, cell)
	wantPut(t, "behind notes that are all done", api.Tablet{Log: kept(small(3, 4)...), Done: 6}, 7, cell)
	wantPut(t, "the last Seq of all", api.Tablet{Done: api.MaxNum - 1}, api.MaxNum, cell)
	wantPut(t, "the last Seq of all, behind a log", api.Tablet{Log: kept(small(api.MaxNum-1, 1)...), Done: api.MaxNum - 2}, api.MaxNum, cell)
}

// TestPutOfManyNotes: there may be more of them in the log than a list has things.
func TestPutOfManyNotes(t *testing.T) {
	a := api.Tablet{Log: logByHand(small(1, api.MaxList-1)...)}
	for seq := api.MaxList; seq < api.MaxList+3; seq++ {
		a = wantPut(t, "many notes", a, seq, put("r", "c", seq, "v"))
	}
}

func TestPutOfWrongNotes(t *testing.T) {
	good := put("r", "c", 2, "v")
	for _, a := range []api.Tablet{{}, {Done: 5}, {Log: logByHand(small(1, 2)...), Since: 0}} {
		wantNotPut(t, "no cells", a, nil, fault(api.ErrMany, -1))
		wantNotPut(t, "21 cells", a, rising(0, api.MaxBatch+1), fault(api.ErrMany, -1))
		wantNotPut(t, "far too many cells, all of them wrong", a, make(list, 1<<16), fault(api.ErrMany, -1))
		wantNotPut(t, "a cell that is zero", a, list{good, {}}, fault(api.ErrSize, 1))
		wantNotPut(t, "a Row that is too long", a, list{put(x(api.MaxKey+1), "c", 1, "v")}, fault(api.ErrSize, 0))
		wantNotPut(t, "a Value that is too long", a, list{good, put("s", "c", 1, x(api.MaxValue+1))}, fault(api.ErrSize, 1))
		wantNotPut(t, "Time below 0", a, list{put("r", "c", -1, "v")}, fault(api.ErrRange, 0))
		wantNotPut(t, "Time above MaxNum", a, append(rising(0, 5), put("s", "c", api.MaxNum+1, "v")), fault(api.ErrRange, 5))
		wantNotPut(t, "Gone, with a Value", a, list{{Row: "s", Gone: true, Value: "v"}}, fault(api.ErrForm, 0))
		wantNotPut(t, "one cell twice", a, list{good, good}, fault(api.ErrTwice, 1))
		wantNotPut(t, "older ahead of newer", a, list{put("r", "c", 1, "v"), good}, fault(api.ErrTwice, 1))
		wantNotPut(t, "two faults, of which the first is told", a, list{good, good, {}}, fault(api.ErrTwice, 1))
	}
	// There is no Seq above MaxNum, which is told ahead of all that is wrong with the cells.
	for _, a := range []api.Tablet{{Done: api.MaxNum}, {Log: kept(small(api.MaxNum, 1)...), Done: api.MaxNum - 1}} {
		for _, l := range []list{{good}, nil, {{}}, rising(0, 30)} {
			wantNotPut(t, "no Seq is left", a, l, fault(api.ErrRange, -1))
		}
	}
}

func TestPutOfClosedTimes(t *testing.T) {
	for _, since := range []int{1, 2, 7, api.MaxNum} {
		a := api.Tablet{Since: since}
		wantPut(t, "at Since", a, 1, put("r", "c", since, "v"))
		wantNotPut(t, "below Since", a, list{put("r", "c", since-1, "v")}, fault(api.ErrStale, 0))
		wantNotPut(t, "at 0", a, list{gone("r", "c", 0)}, fault(api.ErrStale, 0))
		l := list{put("a", "", since, ""), put("b", "", api.MaxNum, ""), gone("c", "", since-1), put("d", "", 0, "")}
		wantNotPut(t, "the first one that is stale", a, l, fault(api.ErrStale, 2))
		wantNotPut(t, "the order, told ahead of what is stale", a, append(slices.Clone(l), l[0]), fault(api.ErrTwice, 4))
		wantNotPut(t, "a wrong cell, told ahead of what is stale", a, append(slices.Clone(l), api.Cell{}), fault(api.ErrSize, 4))
		wantNotPut(t, "too many cells, told ahead of what is stale", a, slices.Repeat(l, 6), fault(api.ErrMany, -1))
	}
	wantNotPut(t, "the least Time is no time", api.Tablet{Since: 5}, list{put("r", "c", math.MinInt, "")}, fault(api.ErrRange, 0))
}

// full: a tablet with these notes and others behind them, a log of so many bytes; and the Seq that comes next.
func full(size int, notes ...api.Note) (api.Tablet, int) {
	notes = upTo(size, notes...)
	return api.Tablet{Log: logByHand(notes...)}, notes[len(notes)-1].Seq + 1
}

func TestPutIntoAFullLog(t *testing.T) {
	cell := put("r", "c", 9, "v")
	a, seq := full(api.MaxBytes-16, small(1, 1)...)
	wantPut(t, "a log that is full then", a, seq, cell)
	a, _ = full(api.MaxBytes-15, small(1, 1)...)
	wantNotPut(t, "one byte too much", a, list{cell}, fault(api.ErrMuch, 0))
	a, _ = full(api.MaxBytes, small(1, 1)...)
	wantNotPut(t, "a full log", a, list{cell}, fault(api.ErrMuch, 0))
	wantNotPut(t, "no cells, told ahead of a full log", a, nil, fault(api.ErrMany, -1))
	a.Since = 10
	wantNotPut(t, "a closed time, told ahead of a full log", a, list{cell}, fault(api.ErrStale, 0))
	// Notes that stand in the files take room, too.
	a, seq = full(api.MaxBytes, small(1, 1)...)
	a.Done = seq - 1
	wantNotPut(t, "a full log of what is done", a, list{cell}, fault(api.ErrMuch, 0))
	cutOff, f := tablet.Cut(a)
	wantTablet(t, "Cut of it", cutOff, f, api.Tablet{Done: seq - 1})
	wantPut(t, "a full log that is cut", cutOff, seq, cell)
}

func TestPutOfTooMuchInMemory(t *testing.T) {
	a := api.Tablet{Log: logByHand(dealt(1, rising(0, 490))...)}
	wantPut(t, "500 cells", a, 26, rising(490, 10)...)
	wantNotPut(t, "501 cells", a, rising(490, 11), fault(api.ErrMuch, -2))
	wantPut(t, "500 cells, one of them anew", a, 26, rising(489, 11)...)
	wantPut(t, "no cell more", a, 26, rising(300, api.MaxBatch)...)
	older := rising(489, 11)
	older[0].Time++
	wantNotPut(t, "501 cells, one of them in a place where another is", a, older, fault(api.ErrMuch, -2))
	// What is done is not in memory.
	a.Done = 1
	wantPut(t, "500 cells, and 20 that are done", a, 26, rising(600, api.MaxBatch)...)
}

func TestPutOfTooMuch(t *testing.T) {
	a := api.Tablet{Files: filesOf(rising(0, 500), rising(500, 490))}
	wantPut(t, "MaxList cells", a, 1, rising(990, 10)...)
	wantNotPut(t, "MaxList cells and one", a, rising(990, 11), fault(api.ErrMuch, -1))
	wantPut(t, "MaxList cells, one of them anew", a, 1, rising(989, 11)...)
	wantPut(t, "no cell more", a, 1, rising(300, api.MaxBatch)...)
	a = api.Tablet{Log: logByHand(dealt(1, rising(0, 490))...), Files: filesOf(rising(490, 500))}
	wantPut(t, "MaxList cells, in memory and a file", a, 26, rising(990, 10)...)
	wantNotPut(t, "in memory, told ahead of all cells", a, rising(990, 11), fault(api.ErrMuch, -2))
	a, _ = full(api.MaxBytes, dealt(1, rising(0, 490))...)
	a.Files = filesOf(rising(490, 490))
	wantNotPut(t, "the log, told ahead of what is in memory", a, rising(990, api.MaxBatch), fault(api.ErrMuch, 0))
	a, _ = full(api.MaxBytes, small(1, 1)...)
	a.Files = filesOf(rising(0, 500), rising(500, 490))
	wantNotPut(t, "the log, told ahead of all cells", a, rising(990, api.MaxBatch), fault(api.ErrMuch, 0))
}
