package locate_test

import (
	"math"
	"testing"

	"tabulary/api"
	"tabulary/locate"
)

// wantOfAll: each call that is given a list tells this fault, and nothing else, whatever else it is given.
func wantOfAll(t *testing.T, what string, l list, want api.Fault) {
	t.Helper()
	wantFault(t, "Check of "+what, locate.Check(l), want)
	for _, row := range []string{"", "d", "j", "m", "z", x(api.MaxKey + 1)} {
		n, is, f := locate.Look(l, row)
		wantFault(t, "Look of "+what, f, want)
		if n != 0 || is {
			t.Errorf("Look of %s: %d and %t beside a fault", what, n, is)
		}
		for _, k := range append(three(), api.Known{}, rows(x(api.MaxKey+1), ""), rows("z", "a")) {
			wantNotLearnt(t, what, l, k, want)
		}
		wantNotFound(t, what, five(), l, row, fault(want.Code, want.At-10000))
	}
}

func TestCheckOfWhatIsFine(t *testing.T) {
	wantFine(t, "nil", nil)
	wantFine(t, "an empty list", list{})
	wantFine(t, "a zero one, of all rows", list{{}})
	wantFine(t, "parts with gaps", three())
	wantFine(t, "parts that touch", list{rows("", "c"), rows("c", "m"), rows("m", "")})
	wantFine(t, "one with an end", list{rows("", "c")})
	wantFine(t, "one without an end", list{rows("c", "")})
	wantFine(t, "MaxParts parts", many(api.MaxParts))
	wantFine(t, "a last one without an end", append(many(api.MaxParts-1), rows("b", "")))
	wantFine(t, "rows of MaxKey bytes", list{rows(x(39)+"a", x(39)+"b"), rows(x(40), "")})
	wantFine(t, "rows that go on where the one ahead ends", list{rows("", "\x00"), rows("\x00", "\x00\x00"), rows("a", "a\x00"), rows("a\x00", "aa"), rows("aa", "\xff"), rows("\xff", "\xff\x00")})
}

// TestCheckOfWhoServes: what is known may be false, so that nothing is said of hosts, turns and IDs.
func TestCheckOfWhoServes(t *testing.T) {
	for _, n := range append(outside(), 1, 7) {
		wantFine(t, "any numbers", list{known("a", "b", n, n, n), known("b", "c", n, n, n), known("c", "", n, n, n)})
	}
}

func TestCheckOfTooMany(t *testing.T) {
	want := fault(api.ErrMany, -1)
	wantOfAll(t, "one part too many", many(api.MaxParts+1), want)
	wantOfAll(t, "one part too many, all of them wrong", make(list, api.MaxParts+1), want)
	wantOfAll(t, "far too many parts", make(list, 1<<18), want)
}

func TestCheckOfSizes(t *testing.T) {
	long := x(api.MaxKey + 1)
	for _, c := range []struct {
		what string
		l    list
		at   int
	}{
		{"a From of one byte too many", list{rows(long, "")}, 0},
		{"a To of one byte too many", list{rows("", long)}, 0},
		{"both of one byte too many", list{rows(long, long+"x")}, 0},
		{"a To of one byte too many, just above From", list{rows(x(api.MaxKey), x(api.MaxKey)+"\x00")}, 0},
		{"a From of one byte too many, above To", list{rows(long, "a")}, 0},
		{"a From that is far too long", list{rows(x(1<<20), "")}, 0},
		{"a second From", append(list{rows("a", "b")}, rows(long, "")), 1},
		{"a second From in the rows of the one ahead", list{rows("a", ""), rows(long, "")}, 1},
		{"a second To", list{rows("a", "b"), rows("b", long)}, 1},
		{"a last To", append(three(), rows("x", long)), 3},
		{"the last of the most", append(many(api.MaxParts-1), rows("b", long)), 199},
	} {
		wantOfAll(t, c.what, c.l, fault(api.ErrSize, c.at))
	}
}

func TestCheckOfForms(t *testing.T) {
	for _, c := range []struct {
		what string
		l    list
		at   int
	}{
		{"a To that is From", list{rows("a", "a")}, 0},
		{"a To below From", list{rows("b", "a")}, 0},
		{"a To just below From", list{rows("a\x00", "a")}, 0},
		{"a To that From goes on from", list{rows("ab", "a")}, 0},
		{"a To below From by its last byte", list{rows("a\xff", "a\xfe")}, 0},
		{"a To below From, at the most bytes", list{rows(x(39)+"b", x(39)+"a")}, 0},
		{"a To that is From, of the most bytes", list{rows(x(40), x(40))}, 0},
		{"a second one", list{rows("a", "b"), rows("c", "c")}, 1},
		{"a second one, ahead of the first one", list{rows("c", "d"), rows("b", "a")}, 1},
		{"a second one, within the first one", list{rows("a", ""), rows("c", "b")}, 1},
		{"a last one", append(three(), rows("z", "y")), 3},
		{"the last of the most", append(many(api.MaxParts-1), rows("c", "b")), 199},
	} {
		wantOfAll(t, c.what, c.l, fault(api.ErrForm, c.at))
	}
	wantFine(t, "a To just above From", list{rows("a", "a\x00")})
	wantFine(t, "a To just above From, of the most bytes", list{rows(x(39), x(39)+"\x00"), rows(x(39)+"a", x(39)+"b")})
	wantFine(t, "a To just above the empty row", list{rows("", "\x00")})
}

func TestCheckOfRowsTwice(t *testing.T) {
	for _, c := range []struct {
		what string
		l    list
		at   int
	}{
		{"all rows twice", list{{}, {}}, 1},
		{"the same one twice", list{three()[0], three()[0]}, 1},
		{"the same one twice, with others between", append(three(), three()[0]), 3},
		{"the same rows, and others who serve them", list{known("a", "b", 1, 2, 3), known("a", "b", 4, 5, 6)}, 1},
		{"just one row in common", list{rows("a", "b\x00"), rows("b", "c")}, 1},
		{"just one row in common, of the most bytes", list{rows("a", x(39)+"\x00"), rows(x(39), "")}, 1},
		{"just the empty row in common", list{rows("", "\x00"), rows("", "a")}, 1},
		{"one that lies within the one ahead", list{rows("a", "d"), rows("b", "c")}, 1},
		{"one in which the one ahead lies", list{rows("b", "c"), rows("a", "d")}, 1},
		{"one that ends where the one ahead does", list{rows("a", "c"), rows("b", "c")}, 1},
		{"one that begins where the one ahead does", list{rows("a", "c"), rows("a", "d")}, 1},
		{"one ahead without an end", list{rows("a", ""), rows("b", "c")}, 1},
		{"two without an end", list{rows("a", ""), rows("b", "")}, 1},
		{"one ahead without an end, with greater rows", list{rows("b", ""), rows("a", "b")}, 1},
		{"two in the wrong order, which touch", list{rows("b", "c"), rows("a", "b")}, 1},
		{"two in the wrong order, with a gap", list{rows("x", "y"), rows("a", "b")}, 1},
		{"the empty row behind all others", list{rows("\x00", ""), rows("", "\x00")}, 1},
		{"one in the wrong order behind two", list{rows("c", "d"), rows("e", "f"), rows("a", "b")}, 2},
		{"one between two that are ahead", list{rows("a", "b"), rows("e", "f"), rows("c", "d")}, 2},
		{"a row in common with the first one alone", list{rows("c", "e"), rows("f", "g"), rows("d", "e")}, 2},
		{"three of one part, of which the second is told", list{rows("a", "b"), rows("a", "b"), rows("a", "b")}, 1},
		{"the last of the most", append(many(api.MaxParts-1), many(1)[0]), 199},
	} {
		wantOfAll(t, c.what, c.l, fault(api.ErrTwice, c.at))
	}
	wantFine(t, "two that touch", list{rows("a", "b"), rows("b", "c")})
	wantFine(t, "two with just one row between", list{rows("a", "b"), rows("b\x00", "c")})
}

// TestCheckTellsTheFirstFault: of one part the first that is named, and of several parts that of the first one.
func TestCheckTellsTheFirstFault(t *testing.T) {
	long := x(api.MaxKey + 1)
	for at := 1; at < 3; at++ {
		l := three()
		l[at] = l[at-1]
		wantOfAll(t, "twice", l, fault(api.ErrTwice, at))
		l[at].Part.To = l[at].Part.From
		wantOfAll(t, "a wrong form, where one ahead is", l, fault(api.ErrForm, at))
		l[at].Part.From = long
		wantOfAll(t, "too long, and a wrong form", l, fault(api.ErrSize, at))
		l[at] = known("", long, -1, -1, -1)
		wantOfAll(t, "too long, where one ahead is", l, fault(api.ErrSize, at))
		l[at-1].Part.To = l[at-1].Part.From
		wantOfAll(t, "a wrong form, ahead of one that is too long", l, fault(api.ErrForm, at-1))
	}
	wantOfAll(t, "twice, ahead of all else", list{rows("a", ""), rows("b", "c"), rows("b", "a"), rows(long, long)}, fault(api.ErrTwice, 1))
}

// TestCheckDoesNotLookAtNumbers: a part that is wrong is so whoever serves it.
func TestCheckDoesNotLookAtNumbers(t *testing.T) {
	for _, n := range []int{math.MinInt, 0, 1, math.MaxInt} {
		wantOfAll(t, "twice", list{known("a", "b", n, n, n), known("a", "b", n, n, n)}, fault(api.ErrTwice, 1))
		wantOfAll(t, "a wrong form", list{known("b", "b", n, n, n)}, fault(api.ErrForm, 0))
	}
}
