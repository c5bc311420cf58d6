package tablet_test

import (
	"math"
	"slices"
	"strconv"
	"testing"

	"tabulary/api"
	"tabulary/tablet"
)

// wantCompact: no fault, and one file of these cells in the stead of those from the place at on, and Since, with all else as it was.
func wantCompact(t *testing.T, what string, a api.Tablet, at, since int, cells list) api.Tablet {
	t.Helper()
	var then api.Tablet
	for _, size := range []int{4000, 77, 50} {
		var f api.Fault
		then, f = tablet.Compact(a, at, since, size)
		want := a
		want.Files = slices.Concat(a.Files[:at], [][]byte{fileOf(size, cells...)})
		want.Since = max(a.Since, since)
		wantTablet(t, what, then, f, want)
	}
	return then
}

// layers: lists of three files, the newest one first.
func layers() []list {
	return []list{
		{put("a", "c", 6, "new"), gone("b", "c", 5), gone("d", "", 2)},
		{put("a", "c", 6, "old"), put("a", "c", 5, "five"), put("b", "c", 4, "four"), gone("c", "", 3)},
		{gone("a", "c", 5), put("a", "c", 1, "one"), put("b", "c", 4, "was"), put("c", "", 1, "one"), put("d", "", 2, "two")},
	}
}

func TestCompact(t *testing.T) {
	a := api.Tablet{Files: filesOf(layers()...), Done: 9}
	wantCompact(t, "all, since 0", a, 0, 0, list{
		put("a", "c", 6, "new"), put("a", "c", 5, "five"), put("a", "c", 1, "one"),
		gone("b", "c", 5), put("b", "c", 4, "four"), gone("c", "", 3), put("c", "", 1, "one"), gone("d", "", 2)})
	wantCompact(t, "all, since 4", a, 0, 4, list{
		put("a", "c", 6, "new"), put("a", "c", 5, "five"), put("a", "c", 1, "one"), gone("b", "c", 5), put("b", "c", 4, "four")})
	wantCompact(t, "all, since 5", a, 0, 5, list{put("a", "c", 6, "new"), put("a", "c", 5, "five")})
	wantCompact(t, "all, since MaxNum", a, 0, api.MaxNum, list{put("a", "c", 6, "new")})
	wantCompact(t, "from 1 on, since 5", a, 1, 5, list{
		put("a", "c", 6, "old"), put("a", "c", 5, "five"), put("b", "c", 4, "four"), gone("c", "", 3), put("d", "", 2, "two")})
	wantCompact(t, "the last file, since 5", a, 2, 5, list{
		gone("a", "c", 5), put("b", "c", 4, "was"), put("c", "", 1, "one"), put("d", "", 2, "two")})
	wantCompact(t, "the last file, since 0", a, 2, 0, layers()[2])
	wantCompact(t, "a file that none is left of", api.Tablet{Files: filesOf(list{gone("r", "c", 7)})}, 0, 7, nil)
	wantCompact(t, "files of nothing", api.Tablet{Files: filesOf(nil, nil), Since: 3}, 0, 5, nil)
}

// TestCompactClosesTimes: Since is the greater one, and what is left hangs on since alone.
func TestCompactClosesTimes(t *testing.T) {
	for _, was := range []int{0, 3, 4, 5, api.MaxNum} {
		for _, since := range []int{0, 1, 2, 3, 4, 5, 6, api.MaxNum} {
			a := api.Tablet{Files: filesOf(layers()...), Since: was}
			for at := range 3 {
				all := joinedByHand(layers()[at:]...)
				then := wantCompact(t, "since "+strconv.Itoa(since), a, at, since, compactByHand(all, since, at == 0))
				if then.Since != max(was, since) {
					t.Errorf("Since is %d", then.Since)
				}
			}
		}
	}
}

// TestCompactWithMemory: what is Gone stays, if an older cell is in memory that it hides.
func TestCompactWithMemory(t *testing.T) {
	files := filesOf(list{gone("r", "c", 5), put("r", "c", 4, "four")})
	for _, c := range []struct {
		what  string
		notes []api.Note
		done  int
		since int
		whole bool
	}{
		{"nothing", nil, 0, 7, true},
		{"a cell at since", []api.Note{note(1, put("r", "c", 7, "v"))}, 0, 7, true},
		{"a cell one below since", []api.Note{note(1, put("r", "c", 6, "v"))}, 0, 7, false},
		{"a cell elsewhere, one below since", []api.Note{note(1, put("s", "d", 6, "v"))}, 0, 7, false},
		{"a cell that is Gone, one below since", []api.Note{note(1, gone("s", "d", 6))}, 0, 7, false},
		{"a cell that it hides", []api.Note{note(1, put("r", "c", 3, "v"))}, 0, 5, false},
		{"a cell of its own time", []api.Note{note(1, put("r", "c", 5, "v"))}, 0, 5, true},
		{"a cell above since", []api.Note{note(1, put("r", "c", 9, "v"))}, 0, 5, true},
		{"a cell at 0", []api.Note{note(1, put("r", "c", 0, "v"))}, 0, api.MaxNum, false},
		{"a cell below since, that is done", []api.Note{note(1, put("r", "c", 3, "v"))}, 1, 7, true},
		{"a cell above since behind one below", []api.Note{note(1, put("q", "", 9, "v")), note(2, put("r", "c", 3, "v"))}, 0, 7, false},
		{"a cell above since, one below is done", []api.Note{note(1, put("r", "c", 3, "v")), note(2, put("q", "", 9, "v"))}, 1, 7, true},
		{"cells of which one is below since", []api.Note{note(1, put("q", "", 9, "v"), put("q", "", 6, ""), put("s", "", 8, ""))}, 0, 7, false},
	} {
		a := api.Tablet{Log: logByHand(c.notes...), Files: files, Done: c.done}
		want := list{gone("r", "c", 5)}
		if c.whole {
			want = nil
		}
		wantCompact(t, "with "+c.what+" in memory", a, 0, c.since, want)
		// What is in memory is held against since, also where more is closed already.
		a.Since = api.MaxNum
		wantCompact(t, "with "+c.what+" in memory, and more closed", a, 0, c.since, want)
		// With a file ahead it is not whole, whatever is in memory.
		a.Files = append(filesOf(list{put("r", "c", 2, "two")}), files...)
		wantCompact(t, "with "+c.what+" in memory, and a file ahead", a, 1, c.since, list{gone("r", "c", 5)})
	}
}

func TestCompactFaults(t *testing.T) {
	for n := range 4 {
		a := api.Tablet{Files: filesOf(layers()[:min(n, 3)]...), Log: logByHand(small(1, 2)...), Since: 2}
		for _, at := range []int{-1, len(a.Files), len(a.Files) + 1, math.MinInt, math.MaxInt} {
			for _, since := range []int{0, 5, -1, api.MaxNum + 1} {
				for _, size := range []int{50, 49} {
					then, f := tablet.Compact(a, at, since, size)
					wantNoTablet(t, "at", then, f, fault(api.ErrRange, -2))
				}
			}
		}
		for at := range a.Files {
			for _, since := range []int{-1, api.MaxNum + 1, math.MinInt, math.MaxInt} {
				for _, size := range []int{50, 4000, 49, 4001} {
					then, f := tablet.Compact(a, at, since, size)
					wantNoTablet(t, "since", then, f, fault(api.ErrRange, -3))
				}
			}
			for _, size := range wrongSizes() {
				then, f := tablet.Compact(a, at, 3, size)
				wantNoTablet(t, "size", then, f, fault(api.ErrRange, -1))
			}
		}
	}
}

// TestCompactOfTooMuch: a file takes 500 cells, of which the bytes are not too many.
func TestCompactOfTooMuch(t *testing.T) {
	a := api.Tablet{Files: filesOf(rising(0, 300), rising(300, 200))}
	wantCompact(t, "500 cells", a, 0, 0, rising(0, 500))
	a = api.Tablet{Files: filesOf(rising(0, 301), rising(301, 200))}
	for _, size := range []int{50, 4000} {
		then, f := tablet.Compact(a, 0, api.MaxNum, size)
		wantNoTablet(t, "501 cells", then, f, fault(api.ErrMany, -1))
	}
	wantCompact(t, "501 cells, but 200 of them alone", a, 1, 0, rising(301, 200))
	for _, size := range wrongSizes() {
		then, f := tablet.Compact(a, 0, 0, size)
		wantNoTablet(t, "size, told ahead of 501 cells", then, f, fault(api.ErrRange, -1))
	}
	// Of 501 cells the one that is hidden is not left.
	first := rising(0, 1)[0]
	newer := first
	newer.Time = 9
	a = api.Tablet{Files: filesOf(list{newer}, rising(0, 500))}
	wantCompact(t, "501 cells, one of which is hidden", a, 0, 9, append(list{newer}, rising(1, 499)...))

	cells := long(500, 100)
	a = api.Tablet{Files: [][]byte{fileOf(4000, cells[:250]...), fileOf(4000, cells[250:]...)}}
	then, f := tablet.Compact(a, 0, 0, 50)
	wantNoTablet(t, "a file that is too large", then, f, fault(api.ErrMuch, 0))
	then, f = tablet.Compact(a, 0, 0, 4000)
	wantTablet(t, "in larger blocks", then, f, api.Tablet{Files: [][]byte{fileOf(4000, cells...)}})
	then, f = tablet.Compact(a, 0, 0, 49)
	wantNoTablet(t, "size, told ahead of what is too large", then, f, fault(api.ErrRange, -1))
}
