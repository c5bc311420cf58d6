package entry_test

import (
	"fmt"
	"math"
	"slices"
	"strconv"
	"strings"
	"testing"

	"tabulary/api"
	"tabulary/entry"
)

type log = []api.Entry

func fault(code, at int) api.Fault { return api.Fault{Code: code, At: at} }

// of: entries of these Terms, whose Texts tell whose they are, and their places.
func of(whose string, terms ...int) log {
	out := make(log, len(terms))
	for i, term := range terms {
		out[i] = api.Entry{Term: term, Text: whose + strconv.Itoa(i+1)}
	}
	return out
}

// many: n entries of one Term.
func many(whose string, n, term int) log { return of(whose, slices.Repeat([]int{term}, n)...) }

// rising: n entries, each of a Term above that of the one ahead.
func rising(whose string, n int) log {
	out := many(whose, n, 0)
	for i := range out {
		out[i].Term = i + 1
	}
	return out
}

// with: the entries, of which that with a number is another one.
func with(l log, number int, e api.Entry) log {
	out := slices.Clone(l)
	out[number] = e
	return out
}

func inTurn(all ...log) log { return slices.Concat(all...) }

// long: a Text of n bytes.
func long(n int) string { return strings.Repeat("x", n) }

// outside: numbers that are not from 0 to MaxNum.
func outside() []int { return []int{-1, api.MaxNum + 1, -api.MaxNum, math.MinInt, math.MaxInt} }

// told: what a failing test tells of entries, of which it leaves out those behind the first 20.
func told(l log) string {
	out := strconv.Itoa(len(l)) + " entries"
	for _, e := range l[:min(len(l), 20)] {
		out += fmt.Sprintf(" %d:%.10q", e.Term, e.Text)
	}
	return out
}

func wantFault(t *testing.T, what string, got, want api.Fault) {
	t.Helper()
	if got != want {
		t.Errorf("%s: fault %v, want %v", what, got, want)
	}
}

func wantOlder(t *testing.T, what string, l log, n, term int, want bool) {
	t.Helper()
	got, f := entry.Older(l, n, term)
	wantFault(t, "Older of "+what, f, api.Fault{})
	if got != want {
		t.Errorf("Older of %s: %v of %s, held against %d and %d", what, got, told(l), n, term)
	}
}

// wantNoOlder: Older tells just this fault, and false.
func wantNoOlder(t *testing.T, what string, l log, n, term int, want api.Fault) {
	t.Helper()
	got, f := entry.Older(l, n, term)
	wantFault(t, "Older of "+what, f, want)
	if got {
		t.Errorf("Older of %s: true beside a fault", what)
	}
}

// wantPut: what is put leads to just this log, of which Check tells nothing, and to the same, put twice.
func wantPut(t *testing.T, what string, l log, at, term int, more, want log) {
	t.Helper()
	got, is, f := entry.Put(l, at, term, more)
	wantFault(t, "Put of "+what, f, api.Fault{})
	if !is || !slices.Equal(got, want) {
		t.Errorf("Put of %s: %s, %v, want %s", what, told(got), is, told(want))
	}
	wantFault(t, "Check of what comes of "+what, entry.Check(got), api.Fault{})
	again, is, f := entry.Put(got, at, term, more)
	wantFault(t, "Put of "+what+", twice", f, api.Fault{})
	if !is || !slices.Equal(again, got) {
		t.Errorf("Put of %s, twice: %s, %v, want %s", what, told(again), is, told(got))
	}
}

// wantNotPut: false without a fault, and the log as it is.
func wantNotPut(t *testing.T, what string, l log, at, term int, more log) {
	t.Helper()
	got, is, f := entry.Put(l, at, term, more)
	wantFault(t, "Put of "+what, f, api.Fault{})
	if is || !slices.Equal(got, l) {
		t.Errorf("Put of %s: %s, %v, want %s, false", what, told(got), is, told(l))
	}
}

// wantRefused: Put tells just this fault, and nothing else.
func wantRefused(t *testing.T, what string, l log, at, term int, more log, want api.Fault) {
	t.Helper()
	got, is, f := entry.Put(l, at, term, more)
	wantFault(t, "Put of "+what, f, want)
	if is || len(got) != 0 {
		t.Errorf("Put of %s: %s, %v beside a fault", what, told(got), is)
	}
}

// wantAgree: just this place, whichever one of the logs comes first.
func wantAgree(t *testing.T, what string, a, b log, want int) {
	t.Helper()
	for range 2 {
		got, f := entry.Agree(a, b)
		wantFault(t, "Agree of "+what, f, api.Fault{})
		if got != want {
			t.Errorf("Agree of %s: %d of %s and %s, want %d", what, got, told(a), told(b), want)
		}
		a, b = b, a
	}
}

// wantNoAgree: Agree tells just this fault, and 0.
func wantNoAgree(t *testing.T, what string, a, b log, want api.Fault) {
	t.Helper()
	got, f := entry.Agree(a, b)
	wantFault(t, "Agree of "+what, f, want)
	if got != 0 {
		t.Errorf("Agree of %s: %d beside a fault", what, got)
	}
}

// number makes numbers below n that look like nothing, the same ones in each run.
type number uint32

func (s *number) below(n int) int {
	*s = *s*1664525 + 1013904223
	return int(*s>>16) % n
}

// anyLog: n entries, whose Terms rise from a first one on, by steps as they come.
func anyLog(s *number, whose string, n int) log {
	out := many(whose, n, 1+s.below(3))
	for i := range out {
		if i > 0 {
			out[i].Term = out[i-1].Term + max(0, s.below(8)-5)
		}
	}
	return out
}
