package merge_test

import (
	"math"
	"slices"
	"testing"

	"tabulary/api"
	"tabulary/merge"
)

// wantOfAll: each call tells this fault, and nothing else, whatever else it is given.
func wantOfAll(t *testing.T, what string, l []list, want api.Fault) {
	t.Helper()
	got, f := merge.Join(l)
	wantNoCells(t, "Join of "+what, got, f, want)
	for _, n := range []int{0, 5, -1, api.MaxNum + 1} {
		got, f = merge.Scan(l, api.Ask{Time: n, Many: n})
		wantNoCells(t, "Scan of "+what, got, f, want)
		for _, whole := range []bool{false, true} {
			got, f = merge.Compact(l, n, whole)
			wantNoCells(t, "Compact of "+what, got, f, want)
		}
	}
}

func TestTooManyLists(t *testing.T) {
	want := fault(api.ErrMany, -1)
	wantOfAll(t, "lists without cells", make([]list, 21), want)
	wantOfAll(t, "far too many lists", make([]list, 1<<20), want)
	wantOfAll(t, "one list too many, of few cells", dealt(rising(0, 42), 21), want)
	wantOfAll(t, "one list too many, of too many cells", dealt(rising(0, 21000), 21), want)
	for _, w := range wrongLists() {
		wantOfAll(t, "too many lists, told ahead of "+w.what, append([]list{w.l}, make([]list, 20)...), want)
		wantOfAll(t, "too many lists, the last one with "+w.what, append(make([]list, 20), w.l), want)
	}
}

// TestWrongList: at each place, behind others that are fine, and ahead of such as are wrong, too.
func TestWrongList(t *testing.T) {
	fine := []list{nil, {put("r", "c", 2, "v")}, rising(0, api.MaxList), {gone("r", "c", 2)}, rising(5000, api.MaxList)}
	all := wrongLists()
	for i, w := range all {
		wantOfAll(t, w.what, []list{w.l}, fault(w.code, 0))
		other := all[(i+5)%len(all)]
		for at := range len(fine) + 1 {
			l := slices.Concat(fine[:at], []list{w.l}, fine[at:])
			wantOfAll(t, w.what+", among others", l, fault(w.code, at))
			l = slices.Concat(fine[:at], []list{w.l, other.l}, fine[at:])
			wantOfAll(t, w.what+", ahead of "+other.what, l, fault(w.code, at))
		}
		wantOfAll(t, w.what+", the last of the most", append(make([]list, 19), w.l), fault(w.code, 19))
	}
}

func TestScanFaults(t *testing.T) {
	for _, l := range [][]list{nil, {nil}, {rising(0, 3)}, dealt(rising(0, 20000), 20)} {
		for _, time := range []int{-1, api.MaxNum + 1, math.MinInt, math.MaxInt} {
			for _, many := range []int{0, 1, api.MaxList, -1, api.MaxList + 1} {
				got, f := merge.Scan(l, api.Ask{Time: time, Many: many})
				wantNoCells(t, "Time", got, f, fault(api.ErrRange, -1))
			}
		}
		for _, many := range []int{-1, api.MaxList + 1, math.MinInt, math.MaxInt} {
			for _, time := range []int{0, 4, api.MaxNum} {
				got, f := merge.Scan(l, api.Ask{From: "z", To: "a", Time: time, Many: many})
				wantNoCells(t, "Many", got, f, fault(api.ErrRange, -2))
			}
		}
	}
}

func TestCompactFaults(t *testing.T) {
	many := []list{rising(0, 1000), rising(1000, 1)}
	// Though one alone would be left of them.
	hidden := make([]list, 2)
	for i := range 1001 {
		hidden[i%2] = append(hidden[i%2], gone("r", "c", 1001-i))
	}
	for _, whole := range []bool{false, true} {
		for _, since := range []int{-1, api.MaxNum + 1, math.MinInt, math.MaxInt} {
			for _, l := range [][]list{nil, {nil}, {rising(0, 3)}, {rising(0, 1000)}} {
				got, f := merge.Compact(l, since, whole)
				wantNoCells(t, "since", got, f, fault(api.ErrRange, -1))
			}
			got, f := merge.Compact(many, since, whole)
			wantNoCells(t, "too many cells, told ahead of since", got, f, fault(api.ErrMuch, -1))
		}
		for _, since := range []int{0, 2000, api.MaxNum} {
			for _, l := range [][]list{many, hidden, dealt(rising(0, 20000), 20)} {
				got, f := merge.Compact(l, since, whole)
				wantNoCells(t, "too many cells", got, f, fault(api.ErrMuch, -1))
			}
		}
	}
}
