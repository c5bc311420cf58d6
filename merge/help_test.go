package merge_test

import (
	"bytes"
	"cmp"
	"math"
	"slices"
	"strconv"
	"strings"
	"testing"

	"tabulary/api"
	"tabulary/merge"
)

type list = []api.Cell

func fault(code, at int) api.Fault { return api.Fault{Code: code, At: at} }

// put: a cell with a value.
func put(row, col string, time int, value string) api.Cell {
	return api.Cell{Row: row, Col: col, Time: time, Value: value}
}

// gone: a cell that is Gone.
func gone(row, col string, time int) api.Cell {
	return api.Cell{Row: row, Col: col, Time: time, Gone: true}
}

func x(n int) string { return strings.Repeat("x", n) }

// cut keeps what a failing test tells readable.
func cut[T any](l []T) []T { return l[:min(len(l), 20)] }

func wantFault(t *testing.T, what string, got, want api.Fault) {
	t.Helper()
	if got != want {
		t.Errorf("%s: fault %v, want %v", what, got, want)
	}
}

// wantCells: no fault, and just these cells.
func wantCells(t *testing.T, what string, got list, f api.Fault, want list) {
	t.Helper()
	wantFault(t, what, f, api.Fault{})
	if !slices.Equal(got, want) {
		t.Errorf("%s: %d cells %v, want %d %v", what, len(got), cut(got), len(want), cut(want))
	}
}

// wantNoCells: just this fault, and no cells.
func wantNoCells(t *testing.T, what string, got list, f, want api.Fault) {
	t.Helper()
	wantFault(t, what, f, want)
	if len(got) != 0 {
		t.Errorf("%s: %d cells beside a fault", what, len(got))
	}
}

// joined: what Join tells, which must be no fault.
func joined(t *testing.T, l ...list) list {
	t.Helper()
	out, f := merge.Join(l)
	wantFault(t, "Join", f, api.Fault{})
	return out
}

// rising: n cells in order, each of a row of its own, the first one with this number.
func rising(from, n int) list {
	out := make(list, n)
	for i := range out {
		out[i] = put("row"+strconv.Itoa(100000+from+i), "c", (from+i)%7, "v"+strconv.Itoa(from+i))
	}
	return out
}

// dealt: the cells, one after the other given to n lists by turns.
func dealt(l list, n int) []list {
	out := make([]list, n)
	for i, c := range l {
		out[i%n] = append(out[i%n], c)
	}
	return out
}

// number makes numbers below n that look like nothing, the same ones in each run.
type number uint32

func (s *number) below(n int) int {
	*s = *s*1664525 + 1013904223
	return int(*s>>16) % n
}

// sameOrder: by the library, what chapter 3 calls in order.
func sameOrder(a, b api.Cell) int {
	return cmp.Or(bytes.Compare([]byte(a.Row), []byte(b.Row)), bytes.Compare([]byte(a.Col), []byte(b.Col)), b.Time-a.Time)
}

func sameKey(a, b api.Cell) bool { return a.Row == b.Row && a.Col == b.Col && a.Time == b.Time }

func samePlace(a, b api.Cell) bool { return a.Row == b.Row && a.Col == b.Col }

// anyList: at most n cells in order, of few rows, columns and times, some of them Gone; mark is in each value.
func anyList(s *number, n int, mark string) list {
	rows := []string{"a", "aa", "ab", "b", "\x00", "\xff", "é"}
	cols := []string{"", "aa", "b", "\xff"}
	times := []int{0, 1, 2, 3, 4, 5, api.MaxNum}
	out := make(list, n)
	for i := range out {
		out[i] = put(rows[s.below(len(rows))], cols[s.below(len(cols))], times[s.below(len(times))], mark+strconv.Itoa(i))
		if s.below(4) == 0 {
			out[i].Gone, out[i].Value = true, ""
		}
	}
	slices.SortStableFunc(out, sameOrder)
	return slices.CompactFunc(out, sameKey)
}

// anyLists: n lists of up to 40 cells; each value tells its list.
func anyLists(s *number, n int) []list {
	out := make([]list, n)
	for i := range out {
		out[i] = anyList(s, s.below(40), strconv.Itoa(i)+":")
	}
	return out
}

// joinedByHand: what Join promises, by the library's stable sort.
func joinedByHand(l []list) list {
	out := slices.Concat(l...)
	slices.SortStableFunc(out, sameOrder)
	return slices.CompactFunc(out, sameKey)
}

// scannedByHand: what Scan promises, looked for among all that are joined.
func scannedByHand(l []list, a api.Ask) list {
	all := joinedByHand(l)
	var out list
	for i, c := range all {
		isHidden := slices.ContainsFunc(all[:i], func(o api.Cell) bool { return samePlace(o, c) && o.Time <= a.Time })
		if c.Time <= a.Time && !isHidden && !c.Gone && c.Row >= a.From && (a.To == "" || c.Row < a.To) {
			out = append(out, c)
		}
	}
	return out[:min(len(out), a.Many)]
}

// compactByHand: what Compact promises, looked for among all that are joined.
func compactByHand(l []list, since int, whole bool) list {
	all := joinedByHand(l)
	var out list
	for i, c := range all {
		isHidden := slices.ContainsFunc(all[:i], func(o api.Cell) bool { return samePlace(o, c) && o.Time <= since })
		if c.Time <= since && isHidden || whole && c.Time <= since && c.Gone {
			continue
		}
		out = append(out, c)
	}
	return out
}

// wrong: a list of which chapter 3's Check tells a fault of this code.
type wrong struct {
	what string
	l    list
	code int
}

func wrongLists() []wrong {
	good := put("r", "c", 2, "v")
	most := rising(0, api.MaxList)
	return []wrong{
		{"one cell too many", rising(0, api.MaxList+1), api.ErrMany},
		{"too many cells, all of them wrong", make(list, 1<<16), api.ErrMany},
		{"a Row of no bytes", list{put("", "c", 1, "v")}, api.ErrSize},
		{"a Row of no bytes, behind others", append(slices.Clone(most[:99]), api.Cell{}), api.ErrSize},
		{"a Row that is too long", list{good, put(x(api.MaxKey+1), "c", 1, "v")}, api.ErrSize},
		{"a Col that is too long", list{put("r", x(api.MaxKey+1), 1, "v")}, api.ErrSize},
		{"a Value that is too long", list{put("r", "c", 1, x(api.MaxValue+1))}, api.ErrSize},
		{"Time below 0", list{put("r", "c", -1, "v")}, api.ErrRange},
		{"Time above MaxNum", list{put("r", "c", api.MaxNum+1, "v")}, api.ErrRange},
		{"the least Time", list{good, put("r", "c", math.MinInt, "v")}, api.ErrRange},
		{"Gone, with a Value", list{good, {Row: "s", Gone: true, Value: "v"}}, api.ErrForm},
		{"one cell twice", list{good, good}, api.ErrTwice},
		{"one Row, Col and Time, once Gone", list{good, gone("r", "c", 2)}, api.ErrTwice},
		{"older ahead of newer", list{put("r", "c", 1, "v"), good}, api.ErrTwice},
		{"columns the wrong way", list{put("r", "d", 1, "v"), good}, api.ErrTwice},
		{"rows the wrong way", list{put("s", "c", 1, "v"), good}, api.ErrTwice},
		{"the last of the most", append(slices.Clone(most[:api.MaxList-1]), most[0]), api.ErrTwice},
		{"two faults, of which the first is told", list{good, good, {}}, api.ErrTwice},
		{"two faults, the other way round", list{put("r", "c", -1, "v"), good, good}, api.ErrRange},
	}
}
