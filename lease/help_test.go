package lease_test

import (
	"math"
	"slices"
	"testing"

	"tabulary/api"
	"tabulary/lease"
)

type script = []api.Deed

func fault(code, at int) api.Fault { return api.Fault{Code: code, At: at} }

func leaseOf(holder, epoch, until int) api.Lease {
	return api.Lease{Holder: holder, Epoch: epoch, Until: until}
}

func trust(epoch, until int) api.Trust { return api.Trust{Epoch: epoch, Until: until} }

func wish(who, sent, epoch int) api.Wish { return api.Wish{Who: who, Sent: sent, Epoch: epoch} }

func reply(who, epoch, until int) api.Reply {
	return api.Reply{Who: who, Trust: trust(epoch, until)}
}

// Deeds, by what happens.

func tick(n int) api.Deed          { return api.Deed{Kind: 0, N: n} }
func step(who, n int) api.Deed     { return api.Deed{Kind: 1, Who: who, N: n} }
func send(who int) api.Deed        { return api.Deed{Kind: 2, Who: who} }
func wishComes(n int) api.Deed     { return api.Deed{Kind: 3, N: n} }
func replyComes(n int) api.Deed    { return api.Deed{Kind: 4, N: n} }
func forget(who int) api.Deed      { return api.Deed{Kind: 5, Who: who} }
func wishAgain(n int) api.Deed     { return api.Deed{Kind: 6, N: n} }
func wishIsLost(n int) api.Deed    { return api.Deed{Kind: 7, N: n} }
func replyIsLost(n int) api.Deed   { return api.Deed{Kind: 8, N: n} }
func asked(who int) script         { return script{send(who), wishComes(0), replyComes(0)} }
func times(n int, s script) script { return slices.Repeat(s, n) }
func inTurn(all ...script) script  { return slices.Concat(all...) }

// outside: numbers that are not from 0 to MaxNum.
func outside() []int { return []int{-1, api.MaxNum + 1, math.MinInt, math.MaxInt} }

// wrongSpans: numbers that are no span.
func wrongSpans() []int { return []int{3, 1000001, 0, -1, -4, math.MinInt, math.MaxInt} }

func wantFault(t *testing.T, what string, got, want api.Fault) {
	t.Helper()
	if got != want {
		t.Errorf("%s: fault %v, want %v", what, got, want)
	}
}

// wantLease: no fault, and just this lease, of which Check tells nothing.
func wantLease(t *testing.T, what string, got api.Lease, f api.Fault, want api.Lease) {
	t.Helper()
	wantFault(t, what, f, api.Fault{})
	if got != want {
		t.Errorf("%s: %v, want %v", what, got, want)
	}
	wantFault(t, "Check of "+what, lease.Check(got), api.Fault{})
}

// wantNoLease: just this fault, and no lease.
func wantNoLease(t *testing.T, what string, got api.Lease, f, want api.Fault) {
	t.Helper()
	wantFault(t, what, f, want)
	if got != (api.Lease{}) {
		t.Errorf("%s: %v beside a fault", what, got)
	}
}

func sameCourt(a, b api.Court) bool {
	return a.Now == b.Now && a.Lease == b.Lease && slices.Equal(a.Clocks, b.Clocks) && slices.Equal(a.Trusts, b.Trusts) && slices.Equal(a.Wishes, b.Wishes) && slices.Equal(a.Replies, b.Replies)
}

// mustPlay: the court that deeds lead to, which have no fault.
func mustPlay(t *testing.T, span, clients int, s script) api.Court {
	t.Helper()
	c, f := lease.Play(span, clients, s)
	if f != (api.Fault{}) {
		t.Fatalf("Play of %v: %v", s[:min(len(s), 50)], f)
	}
	return c
}

func wantCourt(t *testing.T, what string, span, clients int, s script, want api.Court) {
	t.Helper()
	got, f := lease.Play(span, clients, s)
	wantFault(t, what, f, api.Fault{})
	if !sameCourt(got, want) {
		t.Errorf("%s: %v, want %v", what, got, want)
	}
}

// wantRefused: Play and Fair tell just this fault, and nothing else.
func wantRefused(t *testing.T, what string, span, clients int, s script, want api.Fault) {
	t.Helper()
	c, f := lease.Play(span, clients, s)
	wantFault(t, "Play of "+what, f, want)
	if !sameCourt(c, api.Court{}) {
		t.Errorf("Play of %s: %v beside a fault", what, c)
	}
	is, f := lease.Fair(span, clients, s)
	wantFault(t, "Fair of "+what, f, want)
	if is {
		t.Errorf("Fair of %s: it is, beside a fault", what)
	}
}

// wantFine: the deeds have no fault.
func wantFine(t *testing.T, what string, span, clients int, s script) {
	t.Helper()
	_, f := lease.Play(span, clients, s)
	wantFault(t, "Play of "+what, f, api.Fault{})
	_, f = lease.Fair(span, clients, s)
	wantFault(t, "Fair of "+what, f, api.Fault{})
}

func wantFair(t *testing.T, what string, span, clients int, s script, want bool) {
	t.Helper()
	is, f := lease.Fair(span, clients, s)
	wantFault(t, "Fair of "+what, f, api.Fault{})
	if is != want {
		t.Errorf("Fair of %s: %v, want %v", what, is, want)
	}
}

// whoTrusts: the clients whose clocks are below their trusts' Until.
func whoTrusts(c api.Court) []int {
	var out []int
	for who, tr := range c.Trusts {
		if c.Clocks[who] < tr.Until {
			out = append(out, who)
		}
	}
	return out
}

// number makes numbers below n that look like nothing, the same ones in each run.
type number uint32

func (s *number) below(n int) int {
	*s = *s*1664525 + 1013904223
	return int(*s>>16) % n
}

// of: one of these numbers.
func (s *number) of(l ...int) int { return l[s.below(len(l))] }
