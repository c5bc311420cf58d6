package lease_test

import (
	"testing"

	"tabulary/api"
	"tabulary/lease"
)

// TestExamples: the chapter's own.
func TestExamples(t *testing.T) {
	l, f := lease.Grant(api.Lease{}, 1, 0, 8)
	wantLease(t, "Grant of nothing to 1 at 0 for 8", l, f, leaseOf(1, 1, 8))
	until, f := lease.Trust(2, 8)
	wantFault(t, "Trust of 2", f, api.Fault{})
	if until != 8 {
		t.Errorf("who wished at 2 may trust until %d", until)
	}
}

// anyMove: something happens, or all clocks go on, a client's seldom by less than the granter's; so that scripts may be fair, though leases end.
func anyMove(s *number, h *byHand) script {
	d := anyDeed(s, h.Court, 4)
	if d.Kind != 0 && s.below(3) > 0 {
		return script{d}
	}
	out := script{tick(s.of(0, 1, 2, 2))}
	for who := range h.Clocks {
		out = append(out, step(who, max(out[0].N+s.of(0, 0, 0, 0, 0, 1, 1, 2, -1), 0)))
	}
	return out
}

// anyMoves: a script without a fault, of about n deeds.
func anyMoves(s *number, span, clients, n int) script {
	h := newByHand(span, clients)
	var out script
	for len(out) < n {
		for _, d := range anyMove(s, h) {
			if h.codeByHand(d) == api.OK && h.doByHand(d) == api.OK {
				out = append(out, d)
			}
		}
	}
	return out
}

// fairPart: the most deeds, from the first one on, that are fair.
func fairPart(t *testing.T, span, clients int, s script) script {
	t.Helper()
	for n := range s {
		is, f := lease.Fair(span, clients, s[:n+1])
		wantFault(t, "Fair", f, api.Fault{})
		if !is {
			return s[:n]
		}
	}
	return s
}

// TestWhereDeedsAreFair: never two clients trust at one time, whatever comes, is lost, late, or forgotten; and what they trust in they hold.
func TestWhereDeedsAreFair(t *testing.T) {
	s := number(4)
	trusting, epochs := 0, 0
	for range 300 {
		span, clients := s.of(8, 9, 10, 11, 12, 16, 30), 2+s.below(3)
		l := fairPart(t, span, clients, anyMoves(&s, span, clients, 200))
		for n := range l {
			c := mustPlay(t, span, clients, l[:n+1])
			who := whoTrusts(c)
			if len(who) > 1 {
				t.Fatalf("%v trust at one time, behind %v", who, l[:n+1])
			}
			if len(who) == 1 && (c.Lease.Holder != who[0]+1 || c.Now >= c.Lease.Until) {
				t.Fatalf("%d trusts, and holds nothing, behind %v", who[0], l[:n+1])
			}
			trusting += len(who)
		}
		epochs += mustPlay(t, span, clients, l).Lease.Epoch
	}
	if trusting < 1000 || epochs < 500 {
		t.Errorf("somebody trusts at %d moments, in %d epochs, which is little", trusting, epochs)
	}
}

// walk goes through all scripts of at most n deeds more that have no fault, and tells each court, and whether the script is fair.
func walk(t *testing.T, s script, n int, some []api.Deed, see func(c api.Court, isFair bool, s script)) {
	c, f := lease.Play(4, 2, s)
	if f != (api.Fault{}) {
		return
	}
	isFair, f := lease.Fair(4, 2, s)
	wantFault(t, "Fair", f, api.Fault{})
	see(c, isFair, s)
	if n == 0 {
		return
	}
	for _, d := range some {
		walk(t, append(s, d), n-1, some, see)
	}
}

// TestAllShortScripts: of two clients, behind a wish of the first one; with clocks that go on by just enough, and by one less.
func TestAllShortScripts(t *testing.T) {
	some := []api.Deed{tick(2), step(0, 2), step(0, 1), send(0), send(1), wishComes(0), replyComes(0)}
	two := map[bool]int{}
	ahead := make(script, 0, 20)
	ahead = append(ahead, send(0), wishComes(0), replyComes(0), step(1, 900))
	walk(t, ahead, 7, some, func(c api.Court, isFair bool, s script) {
		if len(whoTrusts(c)) == 2 {
			two[isFair]++
			if isFair {
				t.Errorf("two trust behind %v, which is fair", s)
			}
		}
	})
	if two[false] == 0 {
		t.Error("two never trust at one time, though clocks are unfair")
	}
}

// TestJustFair: the first one's trust ends by its own clock just when the second one gets the lease; with one less, both trust.
func TestJustFair(t *testing.T) {
	for span, least := range map[int]int{4: 3, 5: 4, 6: 5, 7: 6, 8: 6, 1000000: 750000} {
		for less := range 2 {
			s := inTurn(asked(0), script{tick(1), step(0, least-less), step(1, least), tick(span - 1)}, asked(1))
			wantFair(t, "a lease that goes from one to another", span, 2, s, less == 0)
			if who := whoTrusts(mustPlay(t, span, 2, s)); len(who) != 1+less {
				t.Errorf("with a span of %d, and %d less, %v trust", span, less, who)
			}
		}
	}
}

// heldBy: who held, or trusted in, each epoch.
type heldBy map[int]int

// note tells whether nobody else held or trusted in this epoch.
func (h heldBy) note(epoch, holder int) bool {
	other, is := h[epoch]
	h[epoch] = holder
	return !is || other == holder
}

// TestHoweverClocksGo: an epoch is held by one alone, and epochs never fall.
func TestHoweverClocksGo(t *testing.T) {
	s := number(5)
	epochs, unfair := 0, 0
	for range 300 {
		span, clients := s.of(4, 5, 7, 8, 100), 2+s.below(7)
		l := anyScript(&s, span, clients, 120)
		holders, last := heldBy{}, 0
		for n := range l {
			c := mustPlay(t, span, clients, l[:n+1])
			if c.Lease.Epoch < last {
				t.Fatalf("epoch %d comes behind %d, by %v", c.Lease.Epoch, last, l[:n+1])
			}
			last = c.Lease.Epoch
			if !holders.note(last, c.Lease.Holder) {
				t.Fatalf("epoch %d is held by two, behind %v", last, l[:n+1])
			}
			for who, tr := range c.Trusts {
				if tr.Epoch > 0 && !holders.note(tr.Epoch, who+1) {
					t.Fatalf("epoch %d is trusted in by another one than held it, behind %v", tr.Epoch, l[:n+1])
				}
			}
		}
		epochs += last
		if is, _ := lease.Fair(span, clients, l); !is {
			unfair++
		}
	}
	if epochs < 600 || unfair < 200 {
		t.Errorf("%d epochs, and %d scripts that are unfair, which is little", epochs, unfair)
	}
}

// TestLeasesWithoutACourt: the same of Grant and Renew alone, also where the granter's clock goes back.
func TestLeasesWithoutACourt(t *testing.T) {
	s := number(6)
	l, holders, done := api.Lease{}, heldBy{}, map[bool]int{}
	for i := range 20000 {
		who, now, span := 1+s.below(3), i+s.below(100), 4+s.below(9)
		isGrant := s.below(3) == 0
		then, f := lease.Renew(l, who, l.Epoch-s.below(2), now, span)
		if isGrant {
			then, f = lease.Grant(l, who, now, span)
		}
		if f != (api.Fault{}) {
			continue
		}
		done[isGrant]++
		if then.Epoch < l.Epoch || !holders.note(then.Epoch, then.Holder) {
			t.Fatalf("%v comes behind %v", then, l)
		}
		if !isGrant && (then.Until < l.Until || then.Epoch != l.Epoch) {
			t.Fatalf("%v is renewed to %v", l, then)
		}
		l = then
	}
	if done[true] < 500 || done[false] < 500 {
		t.Errorf("granted and renewed: %v", done)
	}
}
