package cell_test

import (
	"bytes"
	"cmp"
	"math"
	"slices"
	"strconv"
	"strings"
	"testing"

	"tabulary/api"
)

func fault(code, at int) api.Fault { return api.Fault{Code: code, At: at} }

// put: a cell with a value.
func put(row, col string, time int, value string) api.Cell {
	return api.Cell{Row: row, Col: col, Time: time, Value: value}
}

// gone: a cell that is Gone.
func gone(row, col string, time int) api.Cell {
	return api.Cell{Row: row, Col: col, Time: time, Gone: true}
}

func wantFault(t *testing.T, what string, got, want api.Fault) {
	t.Helper()
	if got != want {
		t.Errorf("%s: fault %v, want %v", what, got, want)
	}
}

// wantCells: no fault, and just these cells.
func wantCells(t *testing.T, what string, got []api.Cell, f api.Fault, want []api.Cell) {
	t.Helper()
	wantFault(t, what, f, api.Fault{})
	if !slices.Equal(got, want) {
		t.Errorf("%s: %d cells %v, want %d %v", what, len(got), cut(got), len(want), cut(want))
	}
}

// wantNoCells: just this fault, and no cells.
func wantNoCells(t *testing.T, what string, got []api.Cell, f, want api.Fault) {
	t.Helper()
	wantFault(t, what, f, want)
	if len(got) != 0 {
		t.Errorf("%s: %d cells beside a fault", what, len(got))
	}
}

func wantBytes(t *testing.T, what string, got []byte, f api.Fault, want []byte) {
	t.Helper()
	wantFault(t, what, f, api.Fault{})
	if !bytes.Equal(got, want) {
		t.Errorf("%s: %d bytes %v, want %d %v", what, len(got), cut(got), len(want), cut(want))
	}
}

// cut keeps what a failing test tells readable.
func cut[T any](l []T) []T { return l[:min(len(l), 20)] }

// rising: n cells in order, each of a row of its own.
func rising(n int) []api.Cell {
	out := make([]api.Cell, n)
	for i := range out {
		out[i] = put("row"+strconv.Itoa(100000+i), "c", i, "v")
	}
	return out
}

// with: the cells, one of them another one.
func with(l []api.Cell, at int, c api.Cell) []api.Cell {
	out := slices.Clone(l)
	out[at] = c
	return out
}

func x(n int) string { return strings.Repeat("x", n) }

// number makes numbers below n that look like nothing, the same ones in each run.
type number uint32

func (s *number) below(n int) int {
	*s = *s*1664525 + 1013904223
	return int(*s>>16) % n
}

// anyCells: n cells of few rows, columns and times, in no order, some of them Gone, each value another one.
func anyCells(s *number, n int) []api.Cell {
	rows := []string{"a", "aa", "ab", "b", "\x00", "\xff", "é"}
	cols := []string{"", "aa", "b", "\xff"}
	out := make([]api.Cell, n)
	for i := range out {
		out[i] = put(rows[s.below(len(rows))], cols[s.below(len(cols))], s.below(6), strconv.Itoa(i))
		if s.below(4) == 0 {
			out[i].Gone, out[i].Value = true, ""
		}
	}
	return out
}

// sorted: what Sort promises, by the library's stable sort.
func sorted(l []api.Cell) []api.Cell {
	out := slices.Clone(l)
	slices.Reverse(out)
	slices.SortStableFunc(out, func(a, b api.Cell) int {
		return cmp.Or(bytes.Compare([]byte(a.Row), []byte(b.Row)), bytes.Compare([]byte(a.Col), []byte(b.Col)), b.Time-a.Time)
	})
	return slices.CompactFunc(out, func(a, b api.Cell) bool {
		return a.Row == b.Row && a.Col == b.Col && a.Time == b.Time
	})
}

// ownWrong: cells with a fault of their own, each with its code.
func ownWrong() []struct {
	what string
	c    api.Cell
	code int
} {
	return []struct {
		what string
		c    api.Cell
		code int
	}{
		{"a Row of no bytes", put("", "c", 1, "v"), api.ErrSize},
		{"all zero", api.Cell{}, api.ErrSize},
		{"a Row of one byte too many", put(x(api.MaxKey+1), "c", 1, "v"), api.ErrSize},
		{"a Row of too many bytes, of few runes", put(strings.Repeat("é", api.MaxKey/2)+"x", "c", 1, "v"), api.ErrSize},
		{"a Col of one byte too many", put("r", x(api.MaxKey+1), 1, "v"), api.ErrSize},
		{"a Value of one byte too many", put("r", "c", 1, x(api.MaxValue+1)), api.ErrSize},
		{"a huge Row", put(x(1<<20), "c", 1, "v"), api.ErrSize},
		{"a huge Value", put("r", "c", 1, x(1<<20)), api.ErrSize},
		{"Time below 0", put("r", "c", -1, "v"), api.ErrRange},
		{"Time above MaxNum", put("r", "c", api.MaxNum+1, "v"), api.ErrRange},
		{"the least Time", put("r", "c", math.MinInt, "v"), api.ErrRange},
		{"the greatest Time", put("r", "c", math.MaxInt, "v"), api.ErrRange},
		{"Gone, with a Value", api.Cell{Row: "r", Col: "c", Time: 1, Gone: true, Value: "v"}, api.ErrForm},
		{"the size ahead of the range", put("", "c", -1, "v"), api.ErrSize},
		{"the size of Value ahead of the range", put("r", "c", api.MaxNum+1, x(api.MaxValue+1)), api.ErrSize},
		{"the size ahead of the form", api.Cell{Row: "r", Col: "c", Time: 1, Gone: true, Value: x(api.MaxValue + 1)}, api.ErrSize},
		{"the range ahead of the form", api.Cell{Row: "r", Col: "c", Time: -1, Gone: true, Value: "v"}, api.ErrRange},
	}
}

// edges: cells at the edges of what may be, in order.
func edges() []api.Cell {
	return []api.Cell{
		put("\x00", "", 0, ""),
		put("r", "", api.MaxNum, "v"),
		gone("r", "", 0),
		put("r", "c", 1, x(api.MaxValue)),
		put("r", x(api.MaxKey), 1, ""),
		put("rr", "c", 1, "\x00\xff"),
		put(x(api.MaxKey), x(api.MaxKey), api.MaxNum, x(api.MaxValue)),
		gone(x(api.MaxKey), x(api.MaxKey), api.MaxNum-1),
		put(strings.Repeat("é", api.MaxKey/2), "c", 1, "v"),
		gone(strings.Repeat("\xff", api.MaxKey), "c", api.MaxNum),
	}
}

// wrongLists: each with what Check says of it.
func wrongLists() []struct {
	what string
	l    []api.Cell
	want api.Fault
} {
	type list = struct {
		what string
		l    []api.Cell
		want api.Fault
	}
	most := rising(api.MaxList)
	many := rising(api.MaxList + 1)
	a, b := put("r", "c", 2, "a"), put("r", "c", 1, "b")
	out := []list{
		{"one cell too many", many, fault(api.ErrMany, 0)},
		{"far too many cells", make([]api.Cell, 1<<18), fault(api.ErrMany, 0)},
		{"too many, told ahead of a cell's fault", with(many, 0, api.Cell{}), fault(api.ErrMany, 0)},
		{"too many, told ahead of the order", with(many, 1, many[0]), fault(api.ErrMany, 0)},
		{"older ahead of newer", []api.Cell{b, a}, fault(api.ErrTwice, 1)},
		{"one cell twice", []api.Cell{a, a}, fault(api.ErrTwice, 1)},
		{"one Row, Col and Time, with two Values", []api.Cell{a, put("r", "c", 2, "z")}, fault(api.ErrTwice, 1)},
		{"one Row, Col and Time, once Gone", []api.Cell{a, b, gone("r", "c", 1)}, fault(api.ErrTwice, 2)},
		{"columns the wrong way", []api.Cell{put("r", "d", 1, ""), put("r", "c", 9, "")}, fault(api.ErrTwice, 1)},
		{"a column ahead that goes on", []api.Cell{put("r", "c", 1, ""), put("r", "", 1, "")}, fault(api.ErrTwice, 1)},
		{"rows the wrong way", []api.Cell{put("s", "c", 1, ""), put("r", "d", 9, "")}, fault(api.ErrTwice, 1)},
		{"a row ahead that goes on", []api.Cell{put("rr", "c", 1, ""), put("r", "d", 1, "")}, fault(api.ErrTwice, 1)},
		{"rows by runes, not by bytes", []api.Cell{put("\xff", "c", 1, ""), put("é", "c", 1, "")}, fault(api.ErrTwice, 1)},
		{"the last of the most", with(most, api.MaxList-1, most[api.MaxList-2]), fault(api.ErrTwice, api.MaxList-1)},
		{"the first of two of the order", []api.Cell{a, b, b, b, a}, fault(api.ErrTwice, 2)},
		{"the order ahead of a later cell's fault", []api.Cell{a, a, {}}, fault(api.ErrTwice, 1)},
		{"a cell's fault ahead of the order of a later one", []api.Cell{a, put("r", "c", -1, ""), a}, fault(api.ErrRange, 1)},
		{"a cell's own fault ahead of its order", []api.Cell{a, put("r", "c", 2, x(api.MaxValue+1))}, fault(api.ErrSize, 1)},
		{"a cell's range ahead of its order", []api.Cell{a, put("b", "c", api.MaxNum+1, "")}, fault(api.ErrRange, 1)},
		{"a cell's form ahead of its order", []api.Cell{a, {Row: "b", Gone: true, Value: "v"}}, fault(api.ErrForm, 1)},
		{"the first of two faults of two kinds", []api.Cell{a, put("s", "", -1, ""), {}}, fault(api.ErrRange, 1)},
	}
	for _, w := range ownWrong() {
		out = append(out,
			list{w.what, []api.Cell{w.c}, fault(w.code, 0)},
			list{w.what + ", behind another one", []api.Cell{put("a", "c", 1, ""), w.c}, fault(w.code, 1)},
			list{w.what + ", the last of the most", with(most, api.MaxList-1, w.c), fault(w.code, api.MaxList-1)})
	}
	return out
}
