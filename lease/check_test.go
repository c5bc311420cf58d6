package lease_test

import (
	"testing"

	"tabulary/api"
	"tabulary/lease"
)

// withOne: a lease of which one of its numbers is another one.
func withOne(l api.Lease, which, n int) api.Lease {
	*[]*int{&l.Holder, &l.Epoch, &l.Until}[which] = n
	return l
}

func TestCheckOfWhatIsFine(t *testing.T) {
	for _, l := range []api.Lease{{}, leaseOf(1, 1, 8), leaseOf(api.MaxNum, api.MaxNum, api.MaxNum)} {
		for which := range 3 {
			for _, n := range []int{0, 1, api.MaxNum - 1, api.MaxNum} {
				wantFault(t, "Check", lease.Check(withOne(l, which, n)), api.Fault{})
			}
		}
	}
}

// TestCheckOfWrongNumbers: Grant and Renew tell it, too, and ahead of all else.
func TestCheckOfWrongNumbers(t *testing.T) {
	want := fault(api.ErrRange, 0)
	for which := range 3 {
		for _, n := range outside() {
			for _, l := range []api.Lease{{}, leaseOf(1, 1, 8), leaseOf(n, n, n), leaseOf(0, n, 0)} {
				l := withOne(l, which, n)
				wantFault(t, "Check", lease.Check(l), want)
				for _, who := range []int{0, 1, n} {
					for _, span := range []int{3, 8} {
						got, f := lease.Grant(l, who, who, span)
						wantNoLease(t, "Grant", got, f, want)
						got, f = lease.Renew(l, who, l.Epoch, who, span)
						wantNoLease(t, "Renew", got, f, want)
					}
				}
			}
		}
	}
}
