package seal_test

import (
	"math"
	"slices"
	"strconv"
	"strings"
	"testing"

	"tabulary/api"
	"tabulary/seal"
)

type script = []api.Deed

func fault(code, at int) api.Fault { return api.Fault{Code: code, At: at} }

// Copies, by what they have gone through.

func open(epoch int, recs ...string) api.Copy { return api.Copy{Epoch: epoch, Recs: recs} }

func closed(epoch int, recs ...string) api.Copy {
	return api.Copy{Epoch: epoch, Closed: true, Recs: recs}
}

func ended(epoch, in int, recs ...string) api.Copy {
	return api.Copy{Epoch: epoch, Closed: true, Recs: recs, Ended: in}
}

// Deeds, by what happens.

func write() api.Deed             { return api.Deed{Kind: 0} }
func bring(who, n int) api.Deed   { return api.Deed{Kind: 1, Who: who, N: n} }
func begin(epoch int) api.Deed    { return api.Deed{Kind: 2, N: epoch} }
func shut(who, n int) api.Deed    { return api.Deed{Kind: 3, Who: who, N: n} }
func choose(n int) api.Deed       { return api.Deed{Kind: 4, N: n} }
func end(who, n int) api.Deed     { return api.Deed{Kind: 5, Who: who, N: n} }
func inTurn(all ...script) script { return slices.Concat(all...) }

func times(n int, s ...api.Deed) script { return slices.Repeat(s, n) }

// shutAll: recovery n closes these copies.
func shutAll(n int, who ...int) script {
	var out script
	for _, w := range who {
		out = append(out, shut(w, n))
	}
	return out
}

// endAll: recovery n ends these copies.
func endAll(n int, who ...int) script {
	var out script
	for _, w := range who {
		out = append(out, end(w, n))
	}
	return out
}

// texts: n records, each another one.
func texts(n int) []string {
	out := make([]string, n)
	for i := range out {
		out[i] = "r" + strconv.Itoa(i)
	}
	return out
}

// long: a record of n bytes.
func long(n int) string { return strings.Repeat("x", n) }

// outside: numbers that are not from 0 to MaxNum.
func outside() []int { return []int{-1, api.MaxNum + 1, math.MinInt, math.MaxInt} }

func wantFault(t *testing.T, what string, got, want api.Fault) {
	t.Helper()
	if got != want {
		t.Errorf("%s: fault %v, want %v", what, got, want)
	}
}

func sameCopy(a, b api.Copy) bool {
	return a.Epoch == b.Epoch && a.Closed == b.Closed && a.Ended == b.Ended && slices.Equal(a.Recs, b.Recs)
}

// wantCopy: no fault, and just this copy, of which Check tells nothing.
func wantCopy(t *testing.T, what string, got api.Copy, f api.Fault, want api.Copy) {
	t.Helper()
	wantFault(t, what, f, api.Fault{})
	if !sameCopy(got, want) {
		t.Errorf("%s: %v, want %v", what, got, want)
	}
	wantFault(t, "Check of "+what, seal.Check(got), api.Fault{})
}

// wantNoCopy: just this fault, and no copy.
func wantNoCopy(t *testing.T, what string, got api.Copy, f, want api.Fault) {
	t.Helper()
	wantFault(t, what, f, want)
	if !sameCopy(got, api.Copy{}) {
		t.Errorf("%s: %v beside a fault", what, got)
	}
}

func sameHeal(a, b api.Heal) bool {
	return a.Epoch == b.Epoch && slices.Equal(a.Heard, b.Heard) && slices.EqualFunc(a.Said, b.Said, sameCopy) && a.Has == b.Has && slices.Equal(a.Recs, b.Recs) && slices.Equal(a.Ends, b.Ends)
}

func sameVault(a, b api.Vault) bool {
	return slices.EqualFunc(a.Copies, b.Copies, sameCopy) && slices.Equal(a.Wrote, b.Wrote) && slices.EqualFunc(a.Took, b.Took, slices.Equal[[]int]) && slices.EqualFunc(a.Heals, b.Heals, sameHeal)
}

// mustPlay: the vault that deeds lead to, which have no fault.
func mustPlay(t *testing.T, n int, recs []string, s script) api.Vault {
	t.Helper()
	v, f := seal.Play(n, recs, s)
	if f != (api.Fault{}) {
		t.Fatalf("Play of %v: %v", s[:min(len(s), 50)], f)
	}
	return v
}

func wantVault(t *testing.T, what string, n int, recs []string, s script, want api.Vault) {
	t.Helper()
	got, f := seal.Play(n, recs, s)
	wantFault(t, what, f, api.Fault{})
	if !sameVault(got, want) {
		t.Errorf("%s: %v, want %v", what, got, want)
	}
}

// wantRefused: Play tells just this fault, and nothing else.
func wantRefused(t *testing.T, what string, n int, recs []string, s script, want api.Fault) {
	t.Helper()
	v, f := seal.Play(n, recs, s)
	wantFault(t, "Play of "+what, f, want)
	if !sameVault(v, api.Vault{}) {
		t.Errorf("Play of %s: %v beside a fault", what, v)
	}
}

// wantFine: the deeds have no fault.
func wantFine(t *testing.T, what string, n int, recs []string, s script) {
	t.Helper()
	_, f := seal.Play(n, recs, s)
	wantFault(t, "Play of "+what, f, api.Fault{})
}

func wantSure(t *testing.T, what string, v api.Vault, want int) {
	t.Helper()
	got, f := seal.Sure(v)
	wantFault(t, "Sure of "+what, f, api.Fault{})
	if got != want {
		t.Errorf("Sure of %s: %d, want %d", what, got, want)
	}
}

// number makes numbers below n that look like nothing, the same ones in each run.
type number uint32

func (s *number) below(n int) int {
	*s = *s*1664525 + 1013904223
	return int(*s>>16) % n
}

// of: one of these numbers.
func (s *number) of(l ...int) int { return l[s.below(len(l))] }
