package parts_test

import (
	"bytes"
	"fmt"
	"slices"
	"strconv"
	"strings"
	"testing"

	"tabulary/api"
	"tabulary/parts"
)

type list = []api.Part

func fault(code, at int) api.Fault { return api.Fault{Code: code, At: at} }

func part(from, to string, id int) api.Part { return api.Part{From: from, To: to, ID: id} }

func x(n int) string { return strings.Repeat("x", n) }

// told: what a failing test tells of parts, of which it leaves out those behind the first 20.
func told(l list) string {
	out := strconv.Itoa(len(l)) + " parts"
	for _, p := range l[:min(len(l), 20)] {
		out += fmt.Sprintf(" %q-%q:%d", p.From, p.To, p.ID)
	}
	return out
}

func wantFault(t *testing.T, what string, got, want api.Fault) {
	t.Helper()
	if got != want {
		t.Errorf("%s: fault %v, want %v", what, got, want)
	}
}

// wantParts: no fault, and just these parts, of which Check tells nothing.
func wantParts(t *testing.T, what string, got list, f api.Fault, want list) {
	t.Helper()
	wantFault(t, what, f, api.Fault{})
	if !slices.Equal(got, want) {
		t.Errorf("%s: %s, want %s", what, told(got), told(want))
	}
	wantFault(t, "Check of "+what, parts.Check(got), api.Fault{})
}

// wantNoParts: just this fault, and no parts.
func wantNoParts(t *testing.T, what string, got list, f, want api.Fault) {
	t.Helper()
	wantFault(t, what, f, want)
	if len(got) != 0 {
		t.Errorf("%s: %d parts beside a fault", what, len(got))
	}
}

// cutAt: the parts that begin with rows, and one ahead of them; their IDs are 10, 11 and so on.
func cutAt(rows ...string) list {
	out := list{{ID: 10}}
	for i, row := range rows {
		out[i].To = row
		out = append(out, part(row, "", 11+i))
	}
	return out
}

// rising: n rows, each above the one ahead.
func rising(n int) []string {
	out := make([]string, n)
	for i := range out {
		out[i] = "row" + strconv.Itoa(10000+i)
	}
	return out
}

// four: parts that begin with nothing, c, m and t.
func four() list { return cutAt("c", "m", "t") }

// most: as many parts as there may be.
func most() list { return cutAt(rising(api.MaxParts - 1)...) }

// with: the parts, of which that at a place is another one.
func with(l list, at int, p api.Part) list {
	out := slices.Clone(l)
	out[at] = p
	return out
}

// number makes numbers below n that look like nothing, the same ones in each run.
type number uint32

func (s *number) below(n int) int {
	*s = *s*1664525 + 1013904223
	return int(*s>>16) % n
}

// someRows: rows that stand close to one another, among them the empty one, and such as are longer than a part's.
func someRows() []string {
	return []string{"", "\x00", "\x00\x00", "a", "a\x00", "a\x00\x00", "aa", "ab", "b", "b\xff", "c", "m", "z", "é", "\xff", "\xff\xff", x(api.MaxKey - 1), x(api.MaxKey), x(api.MaxKey + 1), x(5000)}
}

// anyRow: one that a part may begin with, or that it may not.
func anyRow(s *number) string {
	rows := someRows()
	row := rows[s.below(len(rows))]
	if s.below(3) == 0 {
		row += strconv.Itoa(s.below(1000))
	}
	return row
}

// anyParts: at most n+1 parts, their rows and their IDs (from 0 on) as they come.
func anyParts(s *number, n int) list {
	var rows []string
	for range n {
		if row := anyRow(s); row != "" && len(row) <= api.MaxKey {
			rows = append(rows, row)
		}
	}
	slices.Sort(rows)
	out := cutAt(slices.Compact(rows)...)
	for i := range out {
		out[i].ID = i
	}
	for i := range out {
		j := s.below(len(out))
		out[i].ID, out[j].ID = out[j].ID, out[i].ID
	}
	return out
}

// isAhead: by the library's order of bytes.
func isAhead(a, b string) bool { return bytes.Compare([]byte(a), []byte(b)) < 0 }

// isOf: is a row one of those from from on, ahead of to?
func isOf(row, from, to string) bool {
	return !isAhead(row, from) && (to == "" || isAhead(row, to))
}

// havingByHand: the numbers of all parts that have a row.
func havingByHand(l list, row string) []int {
	var out []int
	for i, p := range l {
		if isOf(row, p.From, p.To) {
			out = append(out, i)
		}
	}
	return out
}

// codeByHand: what Check promises of one part, or OK.
func codeByHand(l list, i int) int {
	p := l[i]
	isFirst, isLast := i == 0, i == len(l)-1
	switch {
	case len(p.From) > 40 || len(p.To) > 40:
		return api.ErrSize
	case p.ID < 0 || p.ID > 1000000000:
		return api.ErrRange
	case isFirst && p.From != "" || !isFirst && p.From != l[i-1].To:
		return api.ErrForm
	case isLast && p.To != "" || !isLast && !isAhead(p.From, p.To):
		return api.ErrForm
	case slices.ContainsFunc(l[:i], func(o api.Part) bool { return o.ID == p.ID }):
		return api.ErrTwice
	}
	return api.OK
}

// checkByHand: what Check promises.
func checkByHand(l list) api.Fault {
	if len(l) == 0 {
		return fault(api.ErrNone, -1)
	}
	if len(l) > 200 {
		return fault(api.ErrMany, -1)
	}
	for i := range l {
		if code := codeByHand(l, i); code != api.OK {
			return fault(code, i)
		}
	}
	return api.Fault{}
}

// othersHave: has a part other than those from the number from on, ahead of to, this ID?
func othersHave(l list, from, to, id int) bool {
	others := slices.Delete(slices.Clone(l), from, to)
	return slices.ContainsFunc(others, func(p api.Part) bool { return p.ID == id })
}

func isNum(n int) bool { return n >= 0 && n <= 1000000000 }

// splitByHand: what Split promises.
func splitByHand(l list, at int, row string, left, right int) (list, api.Fault) {
	if f := checkByHand(l); f != (api.Fault{}) {
		return nil, f
	}
	if at < 0 || at >= len(l) {
		return nil, fault(api.ErrRange, -1)
	}
	p := l[at]
	switch {
	case len(row) > 40:
		return nil, fault(api.ErrSize, -2)
	case !isAhead(p.From, row) || p.To != "" && !isAhead(row, p.To):
		return nil, fault(api.ErrForm, -2)
	case !isNum(left) || !isNum(right):
		return nil, fault(api.ErrRange, -3)
	case left == right || othersHave(l, at, at+1, left) || othersHave(l, at, at+1, right):
		return nil, fault(api.ErrTwice, -3)
	case len(l) >= 200:
		return nil, fault(api.ErrMany, -1)
	}
	out := slices.Insert(slices.Clone(l), at+1, part(row, p.To, right))
	out[at].To, out[at].ID = row, left
	return out, api.Fault{}
}

// joinByHand: what Join promises.
func joinByHand(l list, at, id int) (list, api.Fault) {
	if f := checkByHand(l); f != (api.Fault{}) {
		return nil, f
	}
	if at < 0 || at > len(l)-2 {
		return nil, fault(api.ErrRange, -1)
	}
	if !isNum(id) {
		return nil, fault(api.ErrRange, -3)
	}
	if othersHave(l, at, at+2, id) {
		return nil, fault(api.ErrTwice, -3)
	}
	out := slices.Delete(slices.Clone(l), at+1, at+2)
	out[at].To, out[at].ID = l[at+1].To, id
	return out, api.Fault{}
}
