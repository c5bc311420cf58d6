package locate_test

import (
	"slices"
	"testing"

	"tabulary/api"
)

func TestLookWhereNothingIsKnown(t *testing.T) {
	for _, row := range someRows() {
		wantLook(t, nil, row, -1)
		wantLook(t, list{}, row, -1)
	}
}

func TestLookOfOnePart(t *testing.T) {
	for _, row := range someRows() {
		wantLook(t, list{rows("", "")}, row, 0)
	}
	for row, want := range map[string]int{"": 0, "\x00": -1, "a": -1} {
		wantLook(t, list{rows("", "\x00")}, row, want)
	}
	for row, want := range map[string]int{"": -1, "l\xff": -1, "m": 0, "m\x00": 0, "z": 0, "\xff\xff": 0, x(5000): 0} {
		wantLook(t, list{rows("m", "")}, row, want)
	}
}

// TestLook: at the From of a part, at its To, just ahead of either, and in the gaps.
func TestLook(t *testing.T) {
	for row, want := range map[string]int{
		"": -1, "b": -1, "b\xff\xff": -1,
		"c": 0, "c\x00": 0, "cc": 0, "l\xff": 0,
		"m":     -1,
		"m\x00": 1, "m\x00\x00": 1, "mm": 1, "n": 1, "o\xff": 1,
		"p": -1, "p\x00": -1, "q": -1, "s\xff": -1,
		"t": 2, "t\x00": 2, "w\xff": 2,
		"x": -1, "x\x00": -1, "z": -1, "\xff\xff": -1,
		"C": -1, "M": -1, "T": -1, x(40): -1, x(41): -1, "w" + x(5000): 2, "s" + x(5000): -1,
	} {
		wantLook(t, three(), row, want)
	}
}

func TestLookInTheMost(t *testing.T) {
	l := many(api.MaxParts)
	for i, k := range l {
		wantLook(t, l, k.Part.From, i)
		wantLook(t, l, k.Part.From+"\x00", -1)
		wantLook(t, l, k.Part.From[:4], -1)
	}
	wantLook(t, append(many(199), rows("b", "")), "z", 199)
}

// inTheSteadOf: three, but with one in the stead of those from the number from on, ahead of to.
func inTheSteadOf(from, to int, k api.Known) list {
	return slices.Replace(three(), from, to, k)
}

func TestLearnWhereNothingIsKnown(t *testing.T) {
	for _, k := range append(three(), rows("", ""), rows("", "\x00"), rows("\xff", ""), known("a", "b", -1, -2, -3), rows(x(39)+"a", x(40))) {
		wantLearnt(t, "one where nothing is known", nil, k, k)
		wantLearnt(t, "one where nothing is known", list{}, k, k)
	}
}

// TestLearn: from and to, and which of three it stands in the stead of.
func TestLearn(t *testing.T) {
	for _, c := range []struct {
		what, from, to string
		at, end        int
	}{
		{"one ahead of all", "a", "b", 0, 0},
		{"one ahead of all, which touches the first one", "a", "c", 0, 0},
		{"one ahead of all, from the empty row on", "", "c", 0, 0},
		{"one ahead of all, with just one row of the first one", "a", "c\x00", 0, 1},
		{"one behind all", "y", "z", 3, 3},
		{"one behind all, which touches the last one", "x", "y", 3, 3},
		{"one behind all, without an end", "x", "", 3, 3},
		{"one behind all, with just one row of the last one", "w\xff", "y", 2, 3},
		{"one behind all, with one row of the last one, without an end", "w\xff", "", 2, 3},
		{"one in a gap", "q", "r", 2, 2},
		{"one of a whole gap", "p", "t", 2, 2},
		{"one of a whole gap of one row", "m", "m\x00", 1, 1},
		{"one of a gap and one row ahead of it", "o\xff", "t", 1, 2},
		{"one of a gap and one row behind it", "p", "t\x00", 2, 3},
		{"one of a gap and one row on either side", "o\xff", "t\x00", 1, 3},
		{"one of the first part", "c", "m", 0, 1},
		{"one of the second part", "m\x00", "p", 1, 2},
		{"one of the last part", "t", "x", 2, 3},
		{"one of a part and the gap behind it", "c", "m\x00", 0, 1},
		{"one of a part and the gaps on either side", "m", "t", 1, 2},
		{"one within the first part", "d", "e", 0, 1},
		{"one within the second part", "n", "o", 1, 2},
		{"one of the first rows of a part", "m\x00", "n", 1, 2},
		{"one of the last rows of a part", "n", "p", 1, 2},
		{"one of the first row of a part", "m\x00", "m\x00\x00", 1, 2},
		{"one of a piece of a part and a gap", "w", "z", 2, 3},
		{"one of a gap and a piece of a part", "q", "u", 2, 3},
		{"one of pieces of two parts", "d", "n", 0, 2},
		{"one of pieces of the first and the last part", "d", "u", 0, 3},
		{"one of two whole parts", "c", "p", 0, 2},
		{"one of the last two parts, and more", "m", "z", 1, 3},
		{"one of all three", "c", "x", 0, 3},
		{"one of all three, and more", "b", "y", 0, 3},
		{"one of all three, without an end", "b", "", 0, 3},
		{"one of the last rows, without an end", "n", "", 1, 3},
		{"one of all rows", "", "", 0, 3},
	} {
		k := known(c.from, c.to, 77, 20, 9)
		wantLearnt(t, c.what, three(), k, inTheSteadOf(c.at, c.end, k)...)
	}
}

// TestLearnAgain: what is known already is so again; of others who serve it, it is as they say.
func TestLearnAgain(t *testing.T) {
	for at, k := range three() {
		wantLearnt(t, "what is known already", three(), k, three()...)
		for _, n := range []int{-1, 0, 1, 99} {
			for _, other := range []api.Known{{Part: k.Part, Host: n, Turn: k.Turn}, {Part: k.Part, Host: k.Host, Turn: n}, known(k.Part.From, k.Part.To, n, k.Host, k.Turn)} {
				wantLearnt(t, "another one who serves it", three(), other, inTheSteadOf(at, at+1, other)...)
			}
		}
	}
	all := list{known("", "", 1, 2, 3)}
	wantLearnt(t, "all rows again", all, known("", "", 4, 5, 6), known("", "", 4, 5, 6))
	wantLearnt(t, "some of all rows", all, known("a", "b", 4, 5, 6), known("a", "b", 4, 5, 6))
	wantLearnt(t, "the empty row of all rows", all, rows("", "\x00"), rows("", "\x00"))
	wantLearnt(t, "the empty row ahead of all others", list{rows("\x00", "")}, rows("", "\x00"), rows("", "\x00"), rows("\x00", ""))
	wantLearnt(t, "all others behind the empty row", list{rows("", "\x00")}, rows("\x00", ""), rows("", "\x00"), rows("\x00", ""))
}

func TestLearnOfWhatIsWrong(t *testing.T) {
	long := x(api.MaxKey + 1)
	for _, c := range []struct {
		from, to string
		code     int
	}{
		{long, "", api.ErrSize}, {"", long, api.ErrSize}, {long, "a", api.ErrSize}, {x(40), x(40) + "\x00", api.ErrSize}, {long, long, api.ErrSize}, {x(1 << 20), "", api.ErrSize},
		{"a", "a", api.ErrForm}, {"b", "a", api.ErrForm}, {"a\x00", "a", api.ErrForm}, {x(40), x(40), api.ErrForm}, {x(40), x(39), api.ErrForm},
	} {
		for _, n := range []int{0, 1, 99} {
			k := known(c.from, c.to, n, n, n)
			wantNotLearnt(t, "what is wrong, where nothing is known", nil, k, fault(c.code, -1))
			wantNotLearnt(t, "what is wrong", three(), k, fault(c.code, -1))
			wantNotLearnt(t, "what is wrong, where MaxParts are known", many(api.MaxParts), k, fault(c.code, -1))
			// What is wrong with what is known is told ahead of it.
			wantNotLearnt(t, "what is wrong, where too many are known", many(api.MaxParts+1), k, fault(api.ErrMany, -1))
			wantNotLearnt(t, "what is wrong, where something wrong is known", list{rows("a", "b"), rows("a", "b")}, k, fault(api.ErrTwice, 1))
		}
	}
	for _, n := range outside() {
		wantLearnt(t, "whatever numbers", three(), known("q", "r", n, n, n), inTheSteadOf(2, 2, known("q", "r", n, n, n))...)
	}
}

func TestLearnWhereTheMostAreKnown(t *testing.T) {
	for _, k := range []api.Known{rows("", "a"), rows("a", "a0000"), rows("b", "c"), rows("b", ""), rows("a0100\x00", "a0101"), rows("a0199\x00", "")} {
		wantNotLearnt(t, "one more", many(api.MaxParts), k, fault(api.ErrMany, -2))
		few := many(api.MaxParts)[:api.MaxParts-1]
		wantLearnt(t, "one where there is room", few, k, putByHand(few, k)...)
	}
	for _, c := range []struct {
		from, to string
		at, end  int
	}{
		{"", "a0000\x00", 0, 1}, {"a0000", "a0000\x00", 0, 1}, {"a0100", "a0101", 100, 101}, {"a0199", "", 199, 200}, {"a0100", "a0110", 100, 110}, {"", "", 0, 200}, {"a01", "", 100, 200}, {"a0100\x00", "a0101\x00", 101, 102},
	} {
		k := known(c.from, c.to, 1, 2, 3)
		want := slices.Replace(many(api.MaxParts), c.at, c.end, k)
		wantLearnt(t, "one in the stead of others", many(api.MaxParts), k, want...)
	}
}
