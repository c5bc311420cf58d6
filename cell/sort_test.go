package cell_test

import (
	"slices"
	"strconv"
	"testing"

	"tabulary/api"
	"tabulary/cell"
)

func TestSort(t *testing.T) {
	a, b, g := put("r", "c", 2, "a"), put("r", "c", 1, "b"), gone("r", "c", 2)
	for _, c := range []struct {
		what    string
		l, want []api.Cell
	}{
		{"nothing", nil, nil},
		{"no cells", []api.Cell{}, nil},
		{"one", []api.Cell{a}, []api.Cell{a}},
		{"in order", []api.Cell{a, b}, []api.Cell{a, b}},
		{"the wrong way", []api.Cell{b, a}, []api.Cell{a, b}},
		{"one cell three times", []api.Cell{a, a, a}, []api.Cell{a}},
		{"Gone, the last one", []api.Cell{a, b, g}, []api.Cell{g, b}},
		{"Gone, not the last one", []api.Cell{g, b, a}, []api.Cell{a, b}},
		{"the last one of three", []api.Cell{a, put("r", "c", 2, "z"), put("r", "c", 2, "m")}, []api.Cell{put("r", "c", 2, "m")}},
		{"the last one, without a Value", []api.Cell{a, b, put("r", "c", 2, ""), b}, []api.Cell{put("r", "c", 2, ""), b}},
		{"rows ahead of columns, columns ahead of times",
			[]api.Cell{put("s", "a", 9, ""), put("r", "b", 9, ""), put("r", "a", 1, ""), put("r", "a", 2, ""), put("r", "", 0, "")},
			[]api.Cell{put("r", "", 0, ""), put("r", "a", 2, ""), put("r", "a", 1, ""), put("r", "b", 9, ""), put("s", "a", 9, "")}},
		{"texts by bytes",
			[]api.Cell{put("\xff", "", 0, ""), put("é", "", 0, ""), put("ab", "", 0, ""), put("a", "", 0, ""), put("Z", "", 0, "")},
			[]api.Cell{put("Z", "", 0, ""), put("a", "", 0, ""), put("ab", "", 0, ""), put("é", "", 0, ""), put("\xff", "", 0, "")}},
		{"Row and Col that make one text", []api.Cell{put("ab", "c", 1, "1"), put("a", "bc", 1, "2")}, []api.Cell{put("a", "bc", 1, "2"), put("ab", "c", 1, "1")}},
	} {
		l, f := cell.Sort(c.l)
		wantCells(t, c.what, l, f, c.want)
	}
}

func TestSortAtItsLimits(t *testing.T) {
	for _, want := range [][]api.Cell{edges(), rising(api.MaxList)} {
		l := slices.Clone(want)
		slices.Reverse(l)
		got, f := cell.Sort(l)
		wantCells(t, "the wrong way", got, f, want)
	}
	same := make([]api.Cell, api.MaxList)
	for i := range same {
		same[i] = put("r", "c", 7, strconv.Itoa(i))
	}
	got, f := cell.Sort(same)
	wantCells(t, "all in one place", got, f, same[api.MaxList-1:])
}

func TestSortFaults(t *testing.T) {
	most := slices.Repeat([]api.Cell{put("r", "c", 1, "v")}, api.MaxList)
	many := append(slices.Clone(most), most[0])
	for _, c := range []struct {
		what string
		l    []api.Cell
		want api.Fault
	}{
		{"one too many, though one is left of them", many, fault(api.ErrMany, 0)},
		{"too many, told ahead of a cell's fault", with(many, 0, api.Cell{}), fault(api.ErrMany, 0)},
		{"the first of two", []api.Cell{most[0], put("r", "c", -1, ""), {}}, fault(api.ErrRange, 1)},
		{"the first of the list, not of the order", []api.Cell{put("z", "c", -1, ""), {}}, fault(api.ErrRange, 0)},
		{"one in whose stead another one stands", []api.Cell{{Row: "r", Gone: true, Value: "v"}, put("r", "", 0, "v")}, fault(api.ErrForm, 0)},
	} {
		l, f := cell.Sort(c.l)
		wantNoCells(t, c.what, l, f, c.want)
	}
	for _, w := range ownWrong() {
		l, f := cell.Sort([]api.Cell{w.c})
		wantNoCells(t, w.what, l, f, fault(w.code, 0))
		l, f = cell.Sort(with(most, api.MaxList-1, w.c))
		wantNoCells(t, w.what+", the last", l, f, fault(w.code, api.MaxList-1))
	}
}

// TestSortOfAnyCells: as the library sorts them; what comes out passes Check; and Sort of it changes nothing.
func TestSortOfAnyCells(t *testing.T) {
	s := number(1)
	for i := range 400 {
		n := i % 40
		if i%50 == 0 {
			n = api.MaxList - i%2
		}
		l := anyCells(&s, n)
		got, f := cell.Sort(l)
		wantCells(t, "Sort", got, f, sorted(l))
		wantFault(t, "Check of Sort", cell.Check(got), api.Fault{})
		again, f := cell.Sort(got)
		wantCells(t, "Sort of Sort", again, f, got)
	}
}
