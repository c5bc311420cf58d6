package view_test

import (
	"math"
	"slices"
	"testing"

	"tabulary/api"
	"tabulary/view"
)

func TestIsNum(t *testing.T) {
	for n, want := range map[int]bool{
		0: true, 1: true, api.MaxNum: true,
		-1: false, api.MaxNum + 1: false, math.MinInt: false, math.MaxInt: false,
	} {
		if view.IsNum(n) != want {
			t.Errorf("IsNum of %d is %v", n, !want)
		}
	}
}

// inOrder: some of them Gone, of several times.
func inOrder() []api.Cell {
	return []api.Cell{
		{Row: "Z", Col: "z", Time: 0, Value: "capital"},
		{Row: "a", Time: api.MaxNum, Value: "last"},
		{Row: "a", Time: 5, Gone: true},
		{Row: "a", Time: 3, Value: "three"},
		{Row: "a", Time: 0, Value: "first"},
		{Row: "a", Col: "b", Time: 3, Gone: true},
		{Row: "a", Col: "bc", Time: 9, Value: "nine"},
		{Row: "ab", Col: "b", Time: 2, Value: "two"},
		{Row: "ab", Col: "c", Time: 2, Value: "c"},
		{Row: "é", Col: "c", Time: 4, Value: "four"},
		{Row: "\xff", Col: "c", Time: 4, Value: "\xff"},
	}
}

func sign(n int) int { return min(max(n, -1), 1) }

func TestOrder(t *testing.T) {
	l := inOrder()
	for i, a := range l {
		for j, b := range l {
			if got := view.Order(a, b); sign(got) != sign(i-j) {
				t.Errorf("Order of %v and %v is %d", a, b, got)
			}
		}
	}
	a := api.Cell{Row: "r", Col: "c", Time: 1, Value: "v"}
	b := api.Cell{Row: "r", Col: "c", Time: 1, Gone: true}
	if view.Order(a, b) != 0 || view.Order(b, a) != 0 {
		t.Error("Order looks at more than Row, Col and Time")
	}
}

// which: the numbers of the cells of which it is so.
func which(l []api.Cell, isSo func(api.Cell) bool) []int {
	var out []int
	for i, c := range l {
		if isSo(c) {
			out = append(out, i)
		}
	}
	return out
}

func TestNewestAndSeen(t *testing.T) {
	for _, c := range []struct {
		time         int
		newest, seen []int
	}{
		{0, []int{0, 4}, []int{0, 4}},
		{2, []int{0, 4, 7, 8}, []int{0, 4, 7, 8}},
		{3, []int{0, 3, 5, 7, 8}, []int{0, 3, 7, 8}},
		{5, []int{0, 2, 5, 7, 8, 9, 10}, []int{0, 7, 8, 9, 10}},
		{9, []int{0, 2, 5, 6, 7, 8, 9, 10}, []int{0, 6, 7, 8, 9, 10}},
		{api.MaxNum, []int{0, 1, 5, 6, 7, 8, 9, 10}, []int{0, 1, 6, 7, 8, 9, 10}},
	} {
		if got := which(inOrder(), view.NewestAt(c.time)); !slices.Equal(got, c.newest) {
			t.Errorf("newest at %d: %v, want %v", c.time, got, c.newest)
		}
		if got := which(inOrder(), view.SeenAt(c.time)); !slices.Equal(got, c.seen) {
			t.Errorf("seen at %d: %v, want %v", c.time, got, c.seen)
		}
	}
}

func TestAskedFor(t *testing.T) {
	for _, c := range []struct {
		a    api.Ask
		want []int
	}{
		{api.Ask{Time: 3}, []int{0, 3, 7, 8}},
		{api.Ask{Time: 3, From: "a"}, []int{3, 7, 8}},
		{api.Ask{Time: 3, From: "a\x00"}, []int{7, 8}},
		{api.Ask{Time: 3, To: "ab"}, []int{0, 3}},
		{api.Ask{Time: 3, From: "a", To: "a\x00"}, []int{3}},
		{api.Ask{Time: 3, From: "a", To: "a"}, nil},
		{api.Ask{Time: 4, From: "é"}, []int{9, 10}},
		{api.Ask{Time: 4, From: "ab", To: "\xff"}, []int{7, 8, 9}},
	} {
		if got := which(inOrder(), view.AskedFor(c.a)); !slices.Equal(got, c.want) {
			t.Errorf("asked with %v: %v, want %v", c.a, got, c.want)
		}
	}
}

func TestIsBetween(t *testing.T) {
	for _, c := range []struct {
		row, from, to string
		want          bool
	}{
		{"b", "", "", true}, {"", "", "", true}, {"b", "b", "", true}, {"b", "b", "b\x00", true}, {"b", "a", "c", true}, {"\xff", "é", "", true},
		{"b", "b\x00", "", false}, {"b", "", "b", false}, {"b", "b", "b", false}, {"b", "c", "a", false}, {"b", "c", "d", false}, {"", "a", "", false},
	} {
		if view.IsBetween(c.row, c.from, c.to) != c.want {
			t.Errorf("IsBetween of %q, %q and %q is %v", c.row, c.from, c.to, !c.want)
		}
	}
}

func TestRows(t *testing.T) {
	all := []string{"Z", "a", "ab", "é", "\xff"}
	for n, want := range map[int][]string{0: nil, 1: all[:1], 2: all[:2], 7: all[:2], 8: all[:3], 9: all[:3], 11: all} {
		if got := view.Rows(inOrder()[:n]); !slices.Equal(got, want) {
			t.Errorf("rows of %d cells: %q, want %q", n, got, want)
		}
	}
}

func TestAskFault(t *testing.T) {
	for _, time := range []int{0, 7, api.MaxNum} {
		for _, many := range []int{0, 7, api.MaxList} {
			wantFault(t, time, many, api.Fault{})
		}
		for _, many := range []int{-1, api.MaxList + 1, math.MinInt, math.MaxInt} {
			wantFault(t, time, many, api.Fault{Code: api.ErrRange, At: -2})
		}
	}
	for _, time := range []int{-1, api.MaxNum + 1, math.MinInt, math.MaxInt} {
		for _, many := range []int{-1, 0, api.MaxList, api.MaxList + 1} {
			wantFault(t, time, many, api.Fault{Code: api.ErrRange, At: -1})
		}
	}
}

func wantFault(t *testing.T, time, many int, want api.Fault) {
	t.Helper()
	if f := view.AskFault(api.Ask{Time: time, Many: many}); f != want {
		t.Errorf("AskFault at %d, of %d: %v, want %v", time, many, f, want)
	}
}
