package lease_test

import (
	"math"
	"testing"

	"tabulary/api"
	"tabulary/lease"
)

func wantGranted(t *testing.T, what string, l api.Lease, who, now, span int, want api.Lease) {
	t.Helper()
	got, f := lease.Grant(l, who, now, span)
	wantLease(t, "Grant of "+what, got, f, want)
}

func wantNotGranted(t *testing.T, what string, l api.Lease, who, now, span int, want api.Fault) {
	t.Helper()
	got, f := lease.Grant(l, who, now, span)
	wantNoLease(t, "Grant of "+what, got, f, want)
}

func TestGrant(t *testing.T) {
	wantGranted(t, "nothing", api.Lease{}, 1, 0, 8, leaseOf(1, 1, 8))
	wantGranted(t, "nothing to the greatest one", api.Lease{}, api.MaxNum, 0, 4, leaseOf(api.MaxNum, 1, 4))
	wantGranted(t, "nothing, for the longest", api.Lease{}, 1, 7, 1000000, leaseOf(1, 1, 1000007))
	wantGranted(t, "what has just ended, to another one", leaseOf(1, 5, 8), 2, 8, 5, leaseOf(2, 6, 13))
	wantGranted(t, "what has just ended, to the same one", leaseOf(1, 5, 8), 1, 8, 5, leaseOf(1, 6, 13))
	wantGranted(t, "what ended long ago", leaseOf(1, 5, 8), 2, 800, 5, leaseOf(2, 6, 805))
	wantGranted(t, "what never was", leaseOf(3, 0, 0), 2, 0, 5, leaseOf(2, 1, 5))
}

// TestGrantOfWhatNobodyHolds: whatever its Until, which it may also be brought below.
func TestGrantOfWhatNobodyHolds(t *testing.T) {
	for _, until := range []int{0, 7, 8, 9, 100, api.MaxNum} {
		wantGranted(t, "what nobody holds", leaseOf(0, 5, until), 2, 8, 4, leaseOf(2, 6, 12))
	}
}

func TestGrantOfWhatIsHeld(t *testing.T) {
	want := fault(api.ErrState, 0)
	for _, holder := range []int{1, 2, api.MaxNum} {
		l := leaseOf(holder, 5, 8)
		for _, now := range []int{0, 1, 6, 7} {
			wantNotGranted(t, "what is held", l, 2, now, 8, want)
		}
		wantGranted(t, "what is held no more", l, 2, 8, 8, leaseOf(2, 6, 16))
		wantGranted(t, "what is held no more since 1", l, 2, 9, 8, leaseOf(2, 6, 17))
	}
	wantNotGranted(t, "what is held until MaxNum", leaseOf(1, 5, api.MaxNum), 2, api.MaxNum-1, 8, want)
	wantNotGranted(t, "what is held until 1", leaseOf(1, 5, 1), 1, 0, 8, want)
}

func TestGrantOfTooMuch(t *testing.T) {
	want := fault(api.ErrMuch, 0)
	wantGranted(t, "the last epoch", leaseOf(0, api.MaxNum-1, 0), 1, 0, 8, leaseOf(1, api.MaxNum, 8))
	wantNotGranted(t, "one epoch more", leaseOf(0, api.MaxNum, 0), 1, 0, 8, want)
	wantNotGranted(t, "one epoch more of what has ended", leaseOf(1, api.MaxNum, 8), 1, 8, 8, want)
	for _, span := range []int{4, 8, 1000000} {
		wantGranted(t, "what comes to MaxNum", api.Lease{}, 1, api.MaxNum-span, span, leaseOf(1, 1, api.MaxNum))
		wantNotGranted(t, "what comes to one more", api.Lease{}, 1, api.MaxNum-span+1, span, want)
		wantNotGranted(t, "what comes to far more", api.Lease{}, 1, api.MaxNum, span, want)
	}
	wantNotGranted(t, "an epoch and a time that are too much", leaseOf(1, api.MaxNum, 8), 1, api.MaxNum, 8, want)
}

// wrongAsks: what who, now and span may be, and what is told then, of which the first counts.
func wrongAsks() map[[3]int]api.Fault {
	out := map[[3]int]api.Fault{}
	for _, span := range wrongSpans() {
		out[[3]int{1, 9, span}] = fault(api.ErrRange, -3)
	}
	for _, now := range outside() {
		for _, span := range append(wrongSpans(), 4, 1000000) {
			out[[3]int{1, now, span}] = fault(api.ErrRange, -2)
		}
	}
	for _, who := range append(outside(), 0) {
		for _, now := range append(outside(), 0, api.MaxNum) {
			for _, span := range append(wrongSpans(), 4, 1000000) {
				out[[3]int{who, now, span}] = fault(api.ErrRange, -1)
			}
		}
	}
	return out
}

func TestGrantOfWrongNumbers(t *testing.T) {
	for a, want := range wrongAsks() {
		wantNotGranted(t, "nothing", api.Lease{}, a[0], a[1], a[2], want)
		wantNotGranted(t, "what is held", leaseOf(1, 5, 10), a[0], a[1], a[2], want)
		wantNotGranted(t, "the last epoch", leaseOf(0, api.MaxNum, 0), a[0], a[1], a[2], want)
	}
}

// TestGrantTellsTheFirstFault: what is held can't be granted, whatever would come out.
func TestGrantTellsTheFirstFault(t *testing.T) {
	wantNotGranted(t, "what is held, and is the last epoch", leaseOf(1, api.MaxNum, 9), 2, 8, 8, fault(api.ErrState, 0))
	wantNotGranted(t, "what is held, and would last too long", leaseOf(1, 1, api.MaxNum), 2, api.MaxNum-1, 8, fault(api.ErrState, 0))
	wantNotGranted(t, "what is held, to nobody", leaseOf(1, 1, 9), 0, 8, 8, fault(api.ErrRange, -1))
	wantNotGranted(t, "a lease that is none, to nobody", leaseOf(-1, 1, 9), 0, -1, 3, fault(api.ErrRange, 0))
}

// TestEachGrantIsANewEpoch: one that all those ahead are below.
func TestEachGrantIsANewEpoch(t *testing.T) {
	s := number(2)
	l, now := api.Lease{}, 0
	for epoch := 1; epoch < 500; epoch++ {
		who, span := 1+s.below(5), 4+s.below(9)
		for range s.below(4) {
			now += s.below(20)
		}
		now = max(now, l.Until)
		wantGranted(t, "what ended", l, who, now, span, leaseOf(who, epoch, now+span))
		l = leaseOf(who, epoch, now+span)
		wantNotGranted(t, "what is held then", l, 1+s.below(5), now+s.below(span), span, fault(api.ErrState, 0))
	}
}

func wantRenewed(t *testing.T, what string, l api.Lease, who, epoch, now, span int, want api.Lease) {
	t.Helper()
	got, f := lease.Renew(l, who, epoch, now, span)
	wantLease(t, "Renew of "+what, got, f, want)
}

func wantNotRenewed(t *testing.T, what string, l api.Lease, who, epoch, now, span int, want api.Fault) {
	t.Helper()
	got, f := lease.Renew(l, who, epoch, now, span)
	wantNoLease(t, "Renew of "+what, got, f, want)
}

func TestRenew(t *testing.T) {
	l := leaseOf(3, 5, 8)
	wantRenewed(t, "what is held", leaseOf(1, 1, 8), 1, 1, 5, 8, leaseOf(1, 1, 13))
	wantRenewed(t, "what is held in epoch 0", leaseOf(1, 0, 8), 1, 0, 5, 8, leaseOf(1, 0, 13))
	wantRenewed(t, "what is just held yet", l, 3, 5, 7, 8, leaseOf(3, 5, 15))
	wantRenewed(t, "what is held, to one more", l, 3, 5, 1, 8, leaseOf(3, 5, 9))
	wantRenewed(t, "what is held, to the same", l, 3, 5, 0, 8, l)
	wantRenewed(t, "what is held, to one less", l, 3, 5, 0, 7, l)
	wantRenewed(t, "what is held, to far less", leaseOf(3, 5, api.MaxNum), 3, 5, 0, 4, leaseOf(3, 5, api.MaxNum))
	wantRenewed(t, "what the greatest one holds", leaseOf(api.MaxNum, api.MaxNum, 8), api.MaxNum, api.MaxNum, 0, 1000000, leaseOf(api.MaxNum, api.MaxNum, 1000000))
}

func TestRenewByAnotherOne(t *testing.T) {
	want := fault(api.ErrNone, 0)
	l := leaseOf(3, 5, 8)
	for _, who := range []int{1, 2, 4, api.MaxNum} {
		wantNotRenewed(t, "what another one holds", l, who, 5, 7, 8, want)
		wantNotRenewed(t, "what another one held", l, who, 5, 8, 8, want)
		wantNotRenewed(t, "what nobody holds", leaseOf(0, 5, 8), who, 5, 7, 8, want)
	}
	for _, epoch := range append(outside(), 0, 4, 6, api.MaxNum) {
		wantNotRenewed(t, "what is held in another epoch", l, 3, epoch, 7, 8, want)
		wantNotRenewed(t, "what was held in another epoch", l, 3, epoch, 8, 8, want)
		wantNotRenewed(t, "what another one holds in another epoch", l, 4, epoch, 7, 8, want)
	}
}

func TestRenewTooLate(t *testing.T) {
	for _, now := range []int{8, 9, 1000, api.MaxNum} {
		wantNotRenewed(t, "what is held no more", leaseOf(3, 5, 8), 3, 5, now, 8, fault(api.ErrStale, 0))
	}
	wantNotRenewed(t, "what never was held", leaseOf(3, 5, 0), 3, 5, 0, 8, fault(api.ErrStale, 0))
	wantNotRenewed(t, "what is held until MaxNum", leaseOf(3, 5, api.MaxNum), 3, 5, api.MaxNum, 8, fault(api.ErrStale, 0))
}

func TestRenewOfTooMuch(t *testing.T) {
	l := leaseOf(3, 5, api.MaxNum)
	for _, span := range []int{4, 8, 1000000} {
		wantRenewed(t, "what comes to MaxNum", l, 3, 5, api.MaxNum-span, span, l)
		wantNotRenewed(t, "what comes to one more", l, 3, 5, api.MaxNum-span+1, span, fault(api.ErrMuch, 0))
		wantNotRenewed(t, "what comes to more", l, 3, 5, api.MaxNum-1, span, fault(api.ErrMuch, 0))
	}
	wantRenewed(t, "what comes to MaxNum from below", leaseOf(3, 5, api.MaxNum-2), 3, 5, api.MaxNum-8, 8, l)
	wantRenewed(t, "the last epoch", leaseOf(3, api.MaxNum, 8), 3, api.MaxNum, 7, 8, leaseOf(3, api.MaxNum, 15))
}

func TestRenewOfWrongNumbers(t *testing.T) {
	for a, want := range wrongAsks() {
		for _, epoch := range []int{5, 6, -1, math.MaxInt} {
			wantNotRenewed(t, "what is held", leaseOf(1, 5, 10), a[0], epoch, a[1], a[2], want)
			wantNotRenewed(t, "what ended", leaseOf(1, 5, 9), a[0], epoch, a[1], a[2], want)
			wantNotRenewed(t, "what nobody holds", leaseOf(0, 5, 10), a[0], epoch, a[1], a[2], want)
			wantNotRenewed(t, "what is held for long", leaseOf(1, 5, api.MaxNum), a[0], epoch, a[1], a[2], want)
		}
	}
}

func TestRenewTellsTheFirstFault(t *testing.T) {
	wantNotRenewed(t, "what another one held, and would last too long", leaseOf(3, 5, 8), 2, 5, api.MaxNum, 8, fault(api.ErrNone, 0))
	wantNotRenewed(t, "what was held, and would last too long", leaseOf(3, 5, 8), 3, 5, api.MaxNum, 8, fault(api.ErrStale, 0))
	wantNotRenewed(t, "a lease that is none, by nobody", leaseOf(0, 5, -1), 0, 6, -1, 3, fault(api.ErrRange, 0))
}
