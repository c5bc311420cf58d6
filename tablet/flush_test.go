package tablet_test

import (
	"math"
	"slices"
	"testing"

	"tabulary/api"
	"tabulary/tablet"
)

// wrongSizes of blocks.
func wrongSizes() []int { return []int{49, 4001, 0, -1, math.MinInt, math.MaxInt} }

// wantFlush: no fault, a file of these cells ahead of the others, and Done, with all else as it was.
func wantFlush(t *testing.T, what string, a api.Tablet, done int, cells list) api.Tablet {
	t.Helper()
	var then api.Tablet
	for _, size := range []int{4000, 77, 50} {
		var f api.Fault
		then, f = tablet.Flush(a, size)
		want := a
		want.Files = slices.Concat([][]byte{fileOf(size, cells...)}, a.Files)
		want.Done = done
		wantTablet(t, what, then, f, want)
	}
	return then
}

func TestFlush(t *testing.T) {
	cells := list{put("r", "c", 7, "a")}
	then := wantFlush(t, "one cell", api.Tablet{Log: logByHand(note(1, cells...))}, 1, cells)
	wantFault(t, "Flush again", flushFault(then, 50), fault(api.ErrNone, 0))
	wantFlush(t, "some", some(), 6, list{gone("a", "c", 6), put("b", "c", 5, "six"), gone("c", "", 4), put("d", "", 6, "six")})
	wantFlush(t, "500 cells", api.Tablet{Log: logByHand(dealt(1, rising(0, 500))...), Since: 5}, 25, rising(0, 500))
	wantFlush(t, "what is above Done alone", api.Tablet{Log: kept(dealt(1, rising(0, 60))...), Done: 2}, 3, rising(40, 20))
	wantFlush(t, "many notes", api.Tablet{Log: logByHand(small(1, 3002)...)}, 3002, appliedByHand(small(1, 5)...))
	nine := api.Tablet{Log: logByHand(small(1, 1)...), Files: filesOf(make([]list, api.MaxFiles-1)...)}
	wantFlush(t, "the last file that there may be", nine, 1, small(1, 1)[0].Cells)
	last := api.Tablet{Log: logByHand(small(api.MaxNum, 1)...), Done: api.MaxNum - 1}
	wantFlush(t, "the last Seq of all", last, api.MaxNum, small(api.MaxNum, 1)[0].Cells)
}

// TestFlushChangesNothingThatIsSeen: the file counts ahead of the others, as what is in memory did.
func TestFlushChangesNothingThatIsSeen(t *testing.T) {
	then, f := tablet.Flush(some(), 50)
	wantFault(t, "Flush", f, api.Fault{})
	for time := 4; time < 9; time++ {
		wantScan(t, "flushed", then, api.Ask{Time: time, Many: 99}, scannedByHand(cellsOfSome(), api.Ask{Time: time, Many: 99}))
	}
}

func flushFault(a api.Tablet, size int) api.Fault {
	_, f := tablet.Flush(a, size)
	return f
}

func TestFlushFaults(t *testing.T) {
	none := api.Tablet{Log: kept(small(3, 4)...), Done: 6}
	many := api.Tablet{Log: logByHand(small(1, 1)...), Files: filesOf(make([]list, api.MaxFiles)...)}
	both := api.Tablet{Files: many.Files, Done: 5}
	for _, a := range []api.Tablet{{}, some(), none, many, both} {
		for _, size := range wrongSizes() {
			then, f := tablet.Flush(a, size)
			wantNoTablet(t, "size", then, f, fault(api.ErrRange, -1))
		}
	}
	for _, size := range []int{50, 4000} {
		for _, a := range []api.Tablet{{}, none, {Done: 7}, both} {
			then, f := tablet.Flush(a, size)
			wantNoTablet(t, "nothing in memory", then, f, fault(api.ErrNone, 0))
		}
		then, f := tablet.Flush(many, size)
		wantNoTablet(t, "MaxFiles files", then, f, fault(api.ErrMany, -2))
	}
}

// long: n cells in order of so many bytes of value each.
func long(n, value int) list {
	out := rising(0, n)
	for i := range out {
		out[i].Value = x(value)
	}
	return out
}

// TestFlushOfTooMuch: the log has room for cells that a file, with its index and its filter, has none for.
func TestFlushOfTooMuch(t *testing.T) {
	a := api.Tablet{Log: logByHand(dealt(1, long(500, 80))...)}
	wantFlush(t, "a large file", a, 25, long(500, 80))
	cells := long(500, 100)
	a = api.Tablet{Log: logByHand(dealt(1, cells)...)}
	then, f := tablet.Flush(a, 50)
	wantNoTablet(t, "a file that is too large", then, f, fault(api.ErrMuch, 0))
	then, f = tablet.Flush(a, 4000)
	wantTablet(t, "in larger blocks", then, f, api.Tablet{Log: a.Log, Files: [][]byte{fileOf(4000, cells...)}, Done: 25})
	wantFault(t, "size, told ahead of what is too large", flushFault(a, 49), fault(api.ErrRange, -1))
	a.Files = filesOf(make([]list, api.MaxFiles)...)
	wantFault(t, "MaxFiles files, told ahead of what is too large", flushFault(a, 50), fault(api.ErrMany, -2))
}

// wantCut: no fault, and a log of these notes, with all else as it was.
func wantCut(t *testing.T, what string, a api.Tablet, notes ...api.Note) {
	t.Helper()
	then, f := tablet.Cut(a)
	want := a
	want.Log = kept(notes...)
	wantTablet(t, what, then, f, want)
	again, f := tablet.Cut(then)
	wantTablet(t, what+", again", again, f, want)
}

func TestCut(t *testing.T) {
	wantCut(t, "of nothing", api.Tablet{})
	wantCut(t, "of a tablet without a log", api.Tablet{Done: 7, Since: 3, Files: filesOf(rising(0, 3))})
	notes := dealt(5, rising(0, 90))
	for done := 4; done <= 9; done++ {
		a := api.Tablet{Log: logByHand(notes...), Done: done, Since: 6, Files: filesOf(rising(0, 9), rising(3, 20))}
		wantCut(t, "of notes", a, notes[done-4:]...)
		a.Log.Kept = 300
		wantCut(t, "of notes, some of which are kept", a, notes[done-4:]...)
	}
	wantCut(t, "of some", some(), note(5, put("b", "c", 5, "five"), gone("c", "", 4)),
		note(6, gone("a", "c", 6), put("b", "c", 5, "six"), put("d", "", 6, "six")))
	wantCut(t, "of many notes", api.Tablet{Log: logByHand(small(1, 3000)...), Done: 500}, small(501, 2500)...)
}

// TestTheExample of the chapter.
func TestTheExample(t *testing.T) {
	a := wantPut(t, "of nothing", api.Tablet{}, 1, put("r", "c", 7, "a"))
	a = wantFlush(t, "it", a, 1, list{put("r", "c", 7, "a")})
	wantCut(t, "of it", a)
}
