package cell_test

import (
	"math"
	"slices"
	"testing"

	"tabulary/api"
	"tabulary/cell"
)

// wantGet: no fault, and just this.
func wantGet(t *testing.T, l []api.Cell, row, col string, time int, value string, is bool) {
	t.Helper()
	v, ok, f := cell.Get(l, row, col, time)
	wantFault(t, "Get", f, api.Fault{})
	if v != value || ok != is {
		t.Errorf("Get of %q, %q at %d: %q, %v; want %q, %v", row, col, time, v, ok, value, is)
	}
}

// someCells: in order; a is put, Gone and put again; b is put without a Value; d is Gone from the beginning on.
func someCells() []api.Cell {
	return []api.Cell{
		put("a", "c", 9, "new"),
		gone("a", "c", 5),
		put("a", "c", 3, "old"),
		put("a", "d", 4, "other"),
		put("ab", "c", 2, "longer"),
		put("b", "", 0, ""),
		put("c", "c", api.MaxNum, "late"),
		put("c", "c", 0, "soon"),
		gone("d", "c", 0),
	}
}

func TestExample(t *testing.T) {
	l := []api.Cell{put("r", "c", 2, "b"), put("r", "c", 1, "a")}
	wantGet(t, l, "r", "c", 2, "b", true)
	wantGet(t, l, "r", "c", 1, "a", true)
	wantGet(t, l, "r", "c", 0, "", false)
}

func TestGet(t *testing.T) {
	l := someCells()
	for _, c := range []struct {
		row, col string
		time     int
		value    string
		is       bool
	}{
		{"a", "c", api.MaxNum, "new", true},
		{"a", "c", 10, "new", true},
		{"a", "c", 9, "new", true},
		{"a", "c", 8, "", false},
		{"a", "c", 5, "", false},
		{"a", "c", 4, "old", true},
		{"a", "c", 3, "old", true},
		{"a", "c", 2, "", false},
		{"a", "c", 0, "", false},
		{"a", "d", 4, "other", true},
		{"a", "d", 3, "", false},
		{"ab", "c", 2, "longer", true},
		{"ab", "d", 9, "", false},
		{"b", "", 0, "", true},
		{"b", "", api.MaxNum, "", true},
		{"b", "c", 9, "", false},
		{"c", "c", api.MaxNum, "late", true},
		{"c", "c", api.MaxNum - 1, "soon", true},
		{"c", "c", 0, "soon", true},
		{"d", "c", 0, "", false},
		{"d", "c", api.MaxNum, "", false},
		{"", "", 9, "", false},
		{"", "c", 9, "", false},
		{"A", "c", 9, "", false},
		{"aa", "c", 9, "", false},
		{"a", "", 9, "", false},
		{"zz", "c", 9, "", false},
		{"abc", "", 9, "", false},
		{x(api.MaxKey + 1), x(1 << 16), 9, "", false},
	} {
		wantGet(t, l, c.row, c.col, c.time, c.value, c.is)
	}
	wantGet(t, nil, "r", "c", 0, "", false)
	wantGet(t, []api.Cell{}, "", "", api.MaxNum, "", false)
	wantGet(t, edges(), x(api.MaxKey), x(api.MaxKey), api.MaxNum, x(api.MaxValue), true)
	wantGet(t, rising(api.MaxList), "row100999", "c", 999, "v", true)
	wantGet(t, rising(api.MaxList), "row100999", "c", 998, "", false)
}

func TestGetFaults(t *testing.T) {
	for _, time := range []int{-1, api.MaxNum + 1, math.MinInt, math.MaxInt} {
		for _, l := range [][]api.Cell{nil, someCells()} {
			v, is, f := cell.Get(l, "c", "c", time)
			wantFault(t, "Get", f, fault(api.ErrRange, -1))
			if v != "" || is {
				t.Errorf("Get at %d: %q, %v, beside a fault", time, v, is)
			}
		}
	}
}

func TestScan(t *testing.T) {
	l := someCells()
	for _, c := range []struct {
		what string
		a    api.Ask
		want []api.Cell
	}{
		{"all at the last time", api.Ask{Time: api.MaxNum, Many: api.MaxList}, []api.Cell{l[0], l[3], l[4], l[5], l[6]}},
		{"all while a is Gone", api.Ask{Time: 5, Many: api.MaxList}, []api.Cell{l[3], l[4], l[5], l[7]}},
		{"all ahead of that", api.Ask{Time: 4, Many: api.MaxList}, []api.Cell{l[2], l[3], l[4], l[5], l[7]}},
		{"all at the first time", api.Ask{Time: 0, Many: api.MaxList}, []api.Cell{l[5], l[7]}},
		{"none", api.Ask{Time: 4, Many: 0}, nil},
		{"the first one", api.Ask{Time: 4, Many: 1}, l[2:3]},
		{"the first two that are seen", api.Ask{Time: 5, Many: 2}, []api.Cell{l[3], l[4]}},
		{"just as many as there are", api.Ask{Time: 4, Many: 5}, []api.Cell{l[2], l[3], l[4], l[5], l[7]}},
		{"one less", api.Ask{Time: 4, Many: 4}, l[2:6]},
		{"from a row that is there", api.Ask{From: "ab", Time: 4, Many: 9}, []api.Cell{l[4], l[5], l[7]}},
		{"from a row that is not there", api.Ask{From: "aa", Time: 4, Many: 9}, []api.Cell{l[4], l[5], l[7]}},
		{"from behind all", api.Ask{From: "d\x00", Time: 4, Many: 9}, nil},
		{"ahead of a row that is there", api.Ask{To: "b", Time: 4, Many: 9}, l[2:5]},
		{"ahead of a row that is not there", api.Ask{To: "b\x00", Time: 4, Many: 9}, l[2:6]},
		{"ahead of the first row", api.Ask{To: "a", Time: 4, Many: 9}, nil},
		{"from a row, ahead of another one", api.Ask{From: "ab", To: "c", Time: 4, Many: 9}, l[4:6]},
		{"one row", api.Ask{From: "a", To: "a\x00", Time: 4, Many: 9}, l[2:4]},
		{"the first of one row", api.Ask{From: "ab", Time: 4, Many: 1}, l[4:5]},
		{"from a row, ahead of that one", api.Ask{From: "a", To: "a", Time: 4, Many: 9}, nil},
		{"from a row, ahead of one ahead of it", api.Ask{From: "c", To: "a", Time: 4, Many: 9}, nil},
		{"From and To longer than a row may be", api.Ask{From: x(99), To: "y" + x(99), Time: 4, Many: 9}, nil},
	} {
		got, f := cell.Scan(l, c.a)
		wantCells(t, c.what, got, f, c.want)
	}
}

func TestScanAtItsLimits(t *testing.T) {
	most := rising(api.MaxList)
	for _, c := range []struct {
		what    string
		l, want []api.Cell
		a       api.Ask
	}{
		{"nothing", nil, nil, api.Ask{Many: api.MaxList}},
		{"no cells", []api.Cell{}, nil, api.Ask{Time: api.MaxNum}},
		{"the most cells", most, most, api.Ask{Time: api.MaxNum, Many: api.MaxList}},
		{"all but one of the most", most, most[:api.MaxList-1], api.Ask{Time: api.MaxNum, Many: api.MaxList - 1}},
		{"the last one of the most", most, most[api.MaxList-1:], api.Ask{From: most[api.MaxList-1].Row, Time: 999, Many: api.MaxList}},
		{"the most, but not the newest", most, most[:999], api.Ask{Time: 998, Many: api.MaxList}},
	} {
		got, f := cell.Scan(c.l, c.a)
		wantCells(t, c.what, got, f, c.want)
	}
}

func TestScanFaults(t *testing.T) {
	for _, l := range [][]api.Cell{nil, someCells()} {
		for _, wrong := range []int{-1, api.MaxNum + 1, math.MinInt, math.MaxInt} {
			for _, many := range []int{0, 1, api.MaxList, -1, api.MaxList + 1} {
				got, f := cell.Scan(l, api.Ask{Time: wrong, Many: many})
				wantNoCells(t, "Time", got, f, fault(api.ErrRange, -1))
			}
		}
		for _, wrong := range []int{-1, api.MaxList + 1, math.MinInt, math.MaxInt} {
			for _, time := range []int{0, 4, api.MaxNum} {
				got, f := cell.Scan(l, api.Ask{From: "z", To: "a", Time: time, Many: wrong})
				wantNoCells(t, "Many", got, f, fault(api.ErrRange, -2))
			}
		}
	}
}

// seenByHand: the newest of all cells of a row and a column that are not above the time, looked for among all.
func seenByHand(l []api.Cell, row, col string, time int) (api.Cell, bool) {
	best := api.Cell{Time: -1}
	for _, c := range l {
		if c.Row == row && c.Col == col && c.Time <= time && c.Time > best.Time {
			best = c
		}
	}
	return best, best.Time >= 0 && !best.Gone
}

// TestWhatScanTellsIsWhatGetTells: of any cells, at each time, for some of the rows.
func TestWhatScanTellsIsWhatGetTells(t *testing.T) {
	s := number(2)
	ends := []string{"", "\x00", "a", "aa", "ab", "b", "é", "\xff"}
	for range 60 {
		l := sorted(anyCells(&s, 60))
		for time := range 7 {
			a := api.Ask{From: ends[s.below(len(ends))], To: ends[s.below(len(ends))], Time: time, Many: s.below(20)}
			var want []api.Cell
			for i, c := range l {
				if i > 0 && l[i-1].Row == c.Row && l[i-1].Col == c.Col {
					continue
				}
				best, is := seenByHand(l, c.Row, c.Col, time)
				value := ""
				if is {
					value = best.Value
				}
				wantGet(t, l, c.Row, c.Col, time, value, is)
				if is && c.Row >= a.From && (a.To == "" || c.Row < a.To) {
					want = append(want, best)
				}
			}
			got, f := cell.Scan(l, a)
			wantCells(t, "Scan", got, f, want[:min(len(want), a.Many)])
			wantScanIsGet(t, l, got)
		}
	}
}

// wantScanIsGet: each cell of Scan is what Get tells of its place, at its own time.
func wantScanIsGet(t *testing.T, l, scanned []api.Cell) {
	t.Helper()
	for _, c := range scanned {
		wantGet(t, l, c.Row, c.Col, c.Time, c.Value, true)
		if !slices.Contains(l, c) {
			t.Errorf("%v is none of the cells", c)
		}
	}
}
