package tablet_test

import (
	"math"
	"testing"

	"tabulary/api"
	"tabulary/tablet"
)

func TestSync(t *testing.T) {
	many := api.Tablet{Log: logByHand(small(1, api.MaxList+1)...)}
	for _, a := range []api.Tablet{{}, some(), many, {Done: 3, Since: 4}, {Log: kept(small(2, 3)...), Done: 4}} {
		then, f := tablet.Sync(a)
		want := a
		want.Log.Kept = len(a.Log.Bytes)
		wantTablet(t, "Sync", then, f, want)
		again, f := tablet.Sync(then)
		wantTablet(t, "Sync of Sync", again, f, want)
	}
}

// wantCrash: no fault, and this log, with all else as it was.
func wantCrash(t *testing.T, what string, a api.Tablet, n int, log api.Disk) {
	t.Helper()
	then, f := tablet.Crash(a, n)
	want := a
	want.Log = log
	wantTablet(t, what, then, f, want)
}

// TestCrash: at each n, with each of the notes kept, and each of them done, the notes that are whole are left.
func TestCrash(t *testing.T) {
	notes := []api.Note{
		note(4, put("a", "c", 3, "four"), gone("b", "c", 2)),
		note(5, put("b", "c", 5, "five")),
		note(6, gone("a", "c", 6), put("b", "c", 5, "six"), put("d", "", 6, "six")),
	}
	for keeps := range len(notes) + 1 {
		for done := 3; done <= 6; done++ {
			a := api.Tablet{Log: logByHand(notes...), Files: filesOf(list{put("b", "c", 1, "one")}), Done: done, Since: 2}
			a.Log.Kept = len(logByHand(notes[:keeps]...).Bytes)
			whole := keeps
			for n := range len(a.Log.Bytes) - a.Log.Kept + 1 {
				if whole < len(notes) && a.Log.Kept+n == len(logByHand(notes[:whole+1]...).Bytes) {
					whole++
				}
				want := kept(notes[:whole]...)
				if 3+whole < done {
					want = api.Disk{}
				}
				wantCrash(t, "Crash", a, n, want)
			}
		}
	}
}

func TestCrashAtTheEdges(t *testing.T) {
	wantCrash(t, "of nothing", api.Tablet{}, 0, api.Disk{})
	wantCrash(t, "of a tablet without a log", api.Tablet{Done: 7, Since: 3, Files: filesOf(rising(0, 3))}, 0, api.Disk{})
	wantCrash(t, "of a log that is kept", api.Tablet{Log: kept(small(1, 3)...)}, 0, kept(small(1, 3)...))
	wantCrash(t, "that leaves no notes", api.Tablet{Log: logByHand(small(1, 3)...)}, 5, api.Disk{})
	wantCrash(t, "that leaves no bytes", api.Tablet{Log: logByHand(small(8, 3)...), Done: 9}, 0, api.Disk{})
	// Two of three notes are whole.
	a := api.Tablet{Log: logByHand(small(8, 3)...)}
	n := len(logByHand(small(8, 2)...).Bytes)
	for done, want := range map[int]api.Disk{7: kept(small(8, 2)...), 8: kept(small(8, 2)...), 9: kept(small(8, 2)...), 10: {}} {
		a.Done = done
		wantCrash(t, "that leaves two notes", a, n, want)
		wantCrash(t, "that leaves two notes and a piece", a, n+3, want)
	}
	// A piece of a note that is kept is no note for that, either.
	a = api.Tablet{Log: logByHand(small(8, 3)...), Done: 8}
	a.Log.Kept = n + 2
	wantCrash(t, "that leaves a piece that was kept", a, 0, kept(small(8, 2)...))
}

func TestCrashFaults(t *testing.T) {
	for _, a := range []api.Tablet{{}, some(), {Log: kept(small(1, 3)...)}, {Log: logByHand(small(1, 3)...), Done: 3}} {
		loose := len(a.Log.Bytes) - a.Log.Kept
		for _, n := range []int{-1, loose + 1, math.MinInt, math.MaxInt} {
			then, f := tablet.Crash(a, n)
			wantNoTablet(t, "Crash beyond", then, f, fault(api.ErrRange, -1))
		}
	}
}

// TestCrashOfManyNotes: what Replay says of so many that are left; fewer come back.
func TestCrashOfManyNotes(t *testing.T) {
	a := api.Tablet{Log: logByHand(small(1, api.MaxList+1)...)}
	all := len(a.Log.Bytes)
	then, f := tablet.Crash(a, all)
	wantNoTablet(t, "too many notes are left", then, f, fault(api.ErrMany, 0))
	wantCrash(t, "just as many as may be", a, all-1, kept(small(1, api.MaxList)...))
	then, f = tablet.Crash(a, all+1)
	wantNoTablet(t, "n, told ahead of too many notes", then, f, fault(api.ErrRange, -1))
}
