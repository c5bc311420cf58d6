package parts_test

import (
	"math"
	"slices"
	"strconv"
	"testing"

	"tabulary/api"
	"tabulary/parts"
)

// wantOfAll: each call tells this fault, and nothing else, whatever else it is given.
func wantOfAll(t *testing.T, what string, l list, want api.Fault) {
	t.Helper()
	wantFault(t, "Check of "+what, parts.Check(l), want)
	for _, row := range []string{"", "d", x(api.MaxKey + 1)} {
		n, f := parts.Find(l, row)
		wantFault(t, "Find of "+what, f, want)
		first, many, f := parts.Meet(l, row, "e")
		wantFault(t, "Meet of "+what, f, want)
		if n != 0 || first != 0 || many != 0 {
			t.Errorf("%s: %d, or %d and %d, beside a fault", what, n, first, many)
		}
		for _, at := range []int{-1, 0, 1, len(l)} {
			for _, id := range []int{-1, 10, 77} {
				got, f := parts.Split(l, at, row, id, 78)
				wantNoParts(t, "Split of "+what, got, f, want)
				got, f = parts.Join(l, at, id)
				wantNoParts(t, "Join of "+what, got, f, want)
			}
		}
	}
}

// wantFine: Check tells nothing.
func wantFine(t *testing.T, what string, l list) {
	t.Helper()
	wantFault(t, "Check of "+what, parts.Check(l), api.Fault{})
}

func TestCheckOfWhatIsFine(t *testing.T) {
	wantFine(t, "one part", list{{}})
	wantFine(t, "one part with the greatest ID", list{part("", "", api.MaxNum)})
	wantFine(t, "two parts", list{part("", "m", 1), part("m", "", 0)})
	wantFine(t, "four parts", four())
	wantFine(t, "MaxParts parts", most())
	wantFine(t, "IDs that fall", list{part("", "a", 9), part("a", "b", api.MaxNum), part("b", "", 0)})
	wantFine(t, "rows of MaxKey bytes", cutAt(x(api.MaxKey)))
	wantFine(t, "only rows of MaxKey bytes", cutAt(x(api.MaxKey-1)+"a", x(api.MaxKey-1)+"b", x(api.MaxKey)))
	wantFine(t, "rows that go on where the one ahead ends", cutAt("\x00", "\x00\x00", "a", "a\x00", "aa", "\xff", "\xff\x00"))
}

func TestCheckOfNoneAndOfTooMany(t *testing.T) {
	wantOfAll(t, "nil", nil, fault(api.ErrNone, -1))
	wantOfAll(t, "an empty list", list{}, fault(api.ErrNone, -1))
	wantOfAll(t, "an empty list with parts behind it", four()[:0], fault(api.ErrNone, -1))
	want := fault(api.ErrMany, -1)
	wantOfAll(t, "one part too many", cutAt(rising(api.MaxParts)...), want)
	wantOfAll(t, "one part too many, all of them wrong", make(list, api.MaxParts+1), want)
	wantOfAll(t, "far too many parts", make(list, 1<<20), want)
}

func TestCheckOfSizes(t *testing.T) {
	long := x(api.MaxKey + 1)
	for _, c := range []struct {
		what string
		l    list
		at   int
	}{
		{"a From of one byte too many", list{part(long, "", 1)}, 0},
		{"a To of one byte too many", list{part("", long, 1)}, 0},
		{"a To of one byte too many, with which the next one begins", cutAt("c", long), 1},
		{"a last From that is too long", with(four(), 3, part(long, "", 13)), 3},
		{"a last To that is too long", with(four(), 3, part("t", long, 13)), 3},
		{"a From and a To that are too long", with(four(), 2, part(long, long, 12)), 2},
		{"a From that is far too long", list{part(x(1<<20), "", 1)}, 0},
		{"the last From of the most", with(most(), 199, part(long, "", 300)), 199},
	} {
		wantOfAll(t, c.what, c.l, fault(api.ErrSize, c.at))
	}
}

func TestCheckOfIDs(t *testing.T) {
	for _, id := range []int{-1, api.MaxNum + 1, math.MinInt, math.MaxInt} {
		what := "the ID " + strconv.Itoa(id)
		wantOfAll(t, what, list{part("", "", id)}, fault(api.ErrRange, 0))
		for at, p := range four() {
			wantOfAll(t, what, with(four(), at, part(p.From, p.To, id)), fault(api.ErrRange, at))
		}
	}
	for _, id := range []int{0, api.MaxNum} {
		for at, p := range four() {
			wantFine(t, "the ID "+strconv.Itoa(id), with(four(), at, part(p.From, p.To, id)))
		}
	}
}

func TestCheckOfForms(t *testing.T) {
	for _, c := range []struct {
		what string
		l    list
		at   int
	}{
		{"one part from a on", list{part("a", "", 1)}, 0},
		{"one part from the row of a nought on", list{part("\x00", "", 1)}, 0},
		{"one part ahead of m", list{part("", "m", 1)}, 0},
		{"a first part from a on", with(four(), 0, part("a", "c", 10)), 0},
		{"a first part without an end", with(four(), 0, part("", "", 10)), 0},
		{"two parts of all rows", list{part("", "", 1), part("", "", 2)}, 0},
		{"a last part with an end", with(four(), 3, part("t", "u", 13)), 3},
		{"a last part that ends where it begins", with(four(), 3, part("t", "t", 13)), 3},
		{"a part in between without an end", with(four(), 1, part("c", "", 11)), 1},
		{"a part in between without an end, and a next one of all rows", list{part("", "c", 1), part("c", "", 2), part("", "", 3)}, 1},
		{"a part in between that ends where it begins", list{part("", "c", 1), part("c", "c", 2), part("c", "", 3)}, 1},
		{"a part in between that ends ahead", list{part("", "c", 1), part("c", "b\xff", 2), part("b\xff", "", 3)}, 1},
		{"a part in between that ends with what it begins with", list{part("", "cc", 1), part("cc", "c", 2), part("c", "", 3)}, 1},
		{"rows between two parts", with(four(), 2, part("m\x00", "t", 12)), 2},
		{"rows that two parts have", with(four(), 2, part("l", "t", 12)), 2},
		{"a part of another one's rows", with(four(), 2, part("c", "t", 12)), 2},
		{"a last part of all rows", with(four(), 3, part("", "", 13)), 3},
		{"a last part behind rows", with(four(), 3, part("u", "", 13)), 3},
		{"the first parts alone", four()[:3], 2},
		{"the last parts alone", four()[1:], 0},
		{"parts the wrong way", list{part("m", "", 1), part("", "m", 2)}, 0},
		{"the last of the most", with(most(), 199, part("row2", "", 300)), 199},
	} {
		wantOfAll(t, c.what, c.l, fault(api.ErrForm, c.at))
	}
}

func TestCheckOfIDsTwice(t *testing.T) {
	for ahead := range four() {
		for at := ahead + 1; at < 4; at++ {
			l := four()
			l[at].ID = l[ahead].ID
			wantOfAll(t, "an ID that one ahead has", l, fault(api.ErrTwice, at))
		}
	}
	wantOfAll(t, "one ID for all", list{part("", "a", 0), part("a", "b", 0), part("b", "", 0)}, fault(api.ErrTwice, 1))
	l := most()
	l[199].ID = l[0].ID
	wantOfAll(t, "the first ID at the last of the most", l, fault(api.ErrTwice, 199))
}

// TestCheckTellsTheFirstFault: of one part the first that is named, and of several parts that of the first one.
func TestCheckTellsTheFirstFault(t *testing.T) {
	long := x(api.MaxKey + 1)
	for at := 1; at < 4; at++ {
		l := four()
		l[at].ID = 10
		wantOfAll(t, "twice", l, fault(api.ErrTwice, at))
		l[at].From = "a"
		wantOfAll(t, "a wrong form, and twice", l, fault(api.ErrForm, at))
		l[at].ID = -1
		wantOfAll(t, "a wrong ID, and a wrong form", l, fault(api.ErrRange, at))
		l[at].To = long
		wantOfAll(t, "too long, a wrong ID, and a wrong form", l, fault(api.ErrSize, at))
		l[at].ID = 10
		wantOfAll(t, "too long, a wrong form, and twice", l, fault(api.ErrSize, at))
		l[at-1].ID = api.MaxNum + 1
		wantOfAll(t, "a wrong ID ahead of one that is too long", l, fault(api.ErrRange, at-1))
	}
	l := with(with(four(), 1, part("c", "m", 10)), 2, part(long, long, -1))
	wantOfAll(t, "twice, ahead of all else", l, fault(api.ErrTwice, 1))
	l = with(with(four(), 0, part("a", "c", 10)), 1, part("c", "m", -1))
	wantOfAll(t, "a wrong form, ahead of a wrong ID", l, fault(api.ErrForm, 0))
}

// TestCheckOfWhatever: parts of which one or two are changed, held against what is looked for by hand.
func TestCheckOfWhatever(t *testing.T) {
	s := number(1)
	ids := []int{-1, 0, 1, 2, 3, api.MaxNum, api.MaxNum + 1}
	codes := map[int]int{}
	for range 20000 {
		l := anyParts(&s, s.below(7))
		for range s.below(3) {
			p := &l[s.below(len(l))]
			switch s.below(4) {
			case 0:
				p.From = anyRow(&s)
			case 1:
				p.To = anyRow(&s)
			case 2:
				p.ID = ids[s.below(len(ids))]
			case 3:
				l = slices.Delete(l, 0, s.below(2))
			}
			if len(l) == 0 {
				break
			}
		}
		got, want := parts.Check(l), checkByHand(l)
		if got != want {
			t.Fatalf("Check of %s: %v, want %v", told(l), got, want)
		}
		codes[want.Code]++
	}
	for _, code := range []int{api.OK, api.ErrSize, api.ErrRange, api.ErrForm, api.ErrTwice} {
		if codes[code] < 50 {
			t.Errorf("the code %d is told %d times alone", code, codes[code])
		}
	}
}
