package entry_test

import (
	"testing"

	"tabulary/api"
)

// TestOlderByTheLastTerm: that counts alone, where it is another one, however many entries there are.
func TestOlderByTheLastTerm(t *testing.T) {
	for _, l := range []log{of("l", 5), of("l", 1, 5), of("l", 5, 5, 5), many("l", api.MaxRecs, 5)} {
		for _, n := range []int{0, 1, 2, 3, len(l) - 1, len(l), len(l) + 1, api.MaxRecs, api.MaxNum} {
			for _, term := range []int{6, 7, api.MaxNum} {
				wantOlder(t, "one of a lesser last Term", l, n, term, true)
			}
			for _, term := range []int{0, 1, 4} {
				wantOlder(t, "one of a greater last Term", l, n, term, false)
			}
		}
	}
}

// TestOlderByHowMany: where the last Term is the same; fewer, as many and more.
func TestOlderByHowMany(t *testing.T) {
	for _, l := range []log{of("l", 5), of("l", 1, 5), of("l", 5, 5, 5), many("l", api.MaxRecs, 5)} {
		for _, n := range []int{len(l) + 1, len(l) + 2, api.MaxNum} {
			wantOlder(t, "one of fewer entries", l, n, 5, true)
		}
		wantOlder(t, "one of as many entries", l, len(l), 5, false)
		for _, n := range []int{0, len(l) - 1} {
			wantOlder(t, "one of more entries", l, n, 5, false)
		}
	}
	wantOlder(t, "one of the last Term that there may be", of("l", api.MaxNum), 1, api.MaxNum, false)
	wantOlder(t, "one of the last Term that there may be", of("l", api.MaxNum), 2, api.MaxNum, true)
	wantOlder(t, "one whose first Term is another one", of("l", 1, 5), 1, 1, false)
}

// TestOlderOfAnEmptyLog: its last Term is 0.
func TestOlderOfAnEmptyLog(t *testing.T) {
	for _, l := range []log{nil, {}} {
		wantOlder(t, "an empty log and another one", l, 0, 0, false)
		wantOlder(t, "an empty log", l, 1, 1, true)
		wantOlder(t, "an empty log", l, api.MaxNum, api.MaxNum, true)
		// Such logs can't be, but are asked for.
		wantOlder(t, "an empty log and entries of the Term 0", l, 1, 0, true)
		wantOlder(t, "an empty log and none of the Term 1", l, 0, 1, true)
	}
	wantOlder(t, "one entry and an empty log", of("l", 1), 0, 0, false)
	wantOlder(t, "one entry and some of the Term 0", of("l", 1), api.MaxNum, 0, false)
}

func TestOlderOfWrongNumbers(t *testing.T) {
	for _, l := range rightLogs() {
		for _, wrong := range outside() {
			for _, right := range []int{0, 1, api.MaxNum} {
				wantNoOlder(t, "a wrong n", l, wrong, right, fault(api.ErrRange, -1))
				wantNoOlder(t, "a wrong term", l, right, wrong, fault(api.ErrRange, -2))
			}
			for _, other := range outside() {
				wantNoOlder(t, "a wrong n and term", l, wrong, other, fault(api.ErrRange, -1))
			}
		}
	}
}

// TestOlderOfWrongLogs: what Check says comes first.
func TestOlderOfWrongLogs(t *testing.T) {
	for _, w := range wrongLogs() {
		for _, n := range append(outside(), 0, 200, api.MaxNum) {
			for _, term := range append(outside(), 0, api.MaxNum) {
				wantNoOlder(t, "a wrong log", w.l, n, term, w.want)
			}
		}
	}
}
