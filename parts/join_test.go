package parts_test

import (
	"math"
	"slices"
	"testing"

	"tabulary/api"
	"tabulary/parts"
)

func wantJoined(t *testing.T, what string, l list, at, id int, want list) {
	t.Helper()
	got, f := parts.Join(l, at, id)
	wantParts(t, "Join of "+what, got, f, want)
}

func wantNotJoined(t *testing.T, what string, l list, at, id int, want api.Fault) {
	t.Helper()
	got, f := parts.Join(l, at, id)
	wantNoParts(t, "Join of "+what, got, f, want)
}

func TestJoin(t *testing.T) {
	wantJoined(t, "two", cutAt("m"), 0, 5, list{{ID: 5}})
	l := four()
	wantJoined(t, "the first", l, 0, 5, list{part("", "m", 5), l[2], l[3]})
	wantJoined(t, "those in between", l, 1, 5, list{l[0], part("c", "t", 5), l[3]})
	wantJoined(t, "the last", l, 2, 5, list{l[0], l[1], part("m", "", 5)})
	many := most()
	wantJoined(t, "the last of the most", many, 198, 5, append(slices.Clone(many[:198]), part(many[198].From, "", 5)))
}

func TestJoinIDs(t *testing.T) {
	l := four()
	for _, id := range []int{11, 12, 0, api.MaxNum} {
		wantJoined(t, "those in between", l, 1, id, list{l[0], part("c", "t", id), l[3]})
	}
	for _, id := range []int{10, 11} {
		wantJoined(t, "all", cutAt("\x00"), 0, id, list{{ID: id}})
	}
}

func TestJoinAtNoPart(t *testing.T) {
	for _, l := range []list{{{}}, cutAt("m"), four(), most()} {
		for _, at := range []int{-1, len(l) - 1, len(l), math.MinInt, math.MaxInt} {
			for _, id := range []int{1, -1, 10, api.MaxNum + 1} {
				wantNotJoined(t, "no part, or one without a next one", l, at, id, fault(api.ErrRange, -1))
			}
		}
	}
}

func TestJoinWithWrongIDs(t *testing.T) {
	l := four()
	for at := range 3 {
		for _, id := range []int{-1, api.MaxNum + 1, math.MinInt, math.MaxInt} {
			wantNotJoined(t, "an ID that is none", l, at, id, fault(api.ErrRange, -3))
		}
		for i, p := range l {
			if i != at && i != at+1 {
				wantNotJoined(t, "an ID that a third part has", l, at, p.ID, fault(api.ErrTwice, -3))
			}
		}
	}
	many := most()
	wantNotJoined(t, "the first of the most, with the last one's ID", many, 0, many[199].ID, fault(api.ErrTwice, -3))
	wantNotJoined(t, "the last of the most, with the first one's ID", many, 198, many[0].ID, fault(api.ErrTwice, -3))
}
