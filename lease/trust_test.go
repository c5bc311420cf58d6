package lease_test

import (
	"testing"

	"tabulary/api"
	"tabulary/lease"
)

func TestTrust(t *testing.T) {
	for span, want := range map[int]int{4: 3, 5: 4, 6: 5, 7: 6, 8: 6, 9: 7, 10: 8, 11: 9, 12: 9, 100: 75, 999997: 749998, 999999: 750000, 1000000: 750000} {
		for _, sent := range []int{0, 1, 2, 3, 7, 1000, 900000000, api.MaxNum - 1, api.MaxNum} {
			got, f := lease.Trust(sent, span)
			wantFault(t, "Trust", f, api.Fault{})
			if got != sent+want {
				t.Errorf("Trust of %d and %d: %d, want %d", sent, span, got, sent+want)
			}
		}
	}
}

// wantNo: just this fault, and no number.
func wantNo(t *testing.T, what string, n int, f, want api.Fault) {
	t.Helper()
	wantFault(t, what, f, want)
	if n != 0 {
		t.Errorf("%s: %d beside a fault", what, n)
	}
}

func TestTrustOfWrongNumbers(t *testing.T) {
	for _, sent := range outside() {
		for _, span := range append(wrongSpans(), 4, 1000000) {
			n, f := lease.Trust(sent, span)
			wantNo(t, "Trust of a wrong time", n, f, fault(api.ErrRange, 0))
		}
	}
	for _, sent := range []int{0, 1, api.MaxNum} {
		for _, span := range wrongSpans() {
			n, f := lease.Trust(sent, span)
			wantNo(t, "Trust of a wrong span", n, f, fault(api.ErrRange, -3))
		}
	}
}

func TestAdmit(t *testing.T) {
	numbers := []int{0, 1, 2, 3, 1000, api.MaxNum - 1, api.MaxNum}
	for i, seen := range numbers {
		for j, epoch := range numbers {
			n, f := lease.Admit(seen, epoch)
			if j < i {
				wantNo(t, "Admit of an older epoch", n, f, fault(api.ErrStale, 0))
				continue
			}
			wantFault(t, "Admit", f, api.Fault{})
			if n != epoch {
				t.Errorf("Admit of %d where %d is seen: %d", epoch, seen, n)
			}
		}
	}
}

func TestAdmitOfWrongNumbers(t *testing.T) {
	for _, wrong := range outside() {
		for _, other := range append(outside(), 0, 1, api.MaxNum) {
			n, f := lease.Admit(wrong, other)
			wantNo(t, "Admit where a wrong epoch is seen", n, f, fault(api.ErrRange, 0))
			n, f = lease.Admit(other, wrong)
			wantNo(t, "Admit of a wrong epoch", n, f, fault(api.ErrRange, 0))
		}
	}
}

// TestFenceNeverFalls: what is admitted one behind the other rises, or stays.
func TestFenceNeverFalls(t *testing.T) {
	s := number(3)
	seen := 0
	for range 2000 {
		epoch := s.below(seen + 3)
		n, f := lease.Admit(seen, epoch)
		if f == (api.Fault{}) {
			if n < seen {
				t.Fatalf("%d is seen behind %d", n, seen)
			}
			seen = n
		}
	}
	if seen < 20 {
		t.Errorf("the fence has seen %d alone", seen)
	}
}
