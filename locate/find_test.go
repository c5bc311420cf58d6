package locate_test

import (
	"slices"
	"testing"

	"tabulary/api"
	"tabulary/assign"
)

// TestExamples: the chapter's own.
func TestExamples(t *testing.T) {
	b := api.Board{Hosts: []api.Host{{ID: 7, Epoch: 1, Alive: true}}, Slots: slots{slotOf("", "", 1, 2, 7, 1)}, Turn: 1, Next: 2}
	k := known("", "", 1, 7, 1)
	wantFound(t, "nothing known, one slot, open at 7 in turn 1", b, nil, "r", k, 1, k)
	wantFound(t, "the same, once more", b, list{k}, "r", k, 1, k)
}

// TestFindWhereNothingIsKnown: of the row; all else that is known stays, but what has a row in common with the slot's part.
func TestFindWhereNothingIsKnown(t *testing.T) {
	b := five()
	for i, all := range rowsOfFive() {
		s, k := b.Slots[i], ofSlot(b.Slots[i])
		for _, row := range all {
			if s.State != 2 {
				wantNotOpen(t, "a row of which nothing is known", b, nil, row, 1)
				continue
			}
			wantFound(t, "a row of which nothing is known", b, nil, row, k, 1, k)
			wantFound(t, "a row of which nothing is known, as a list is empty", b, list{}, row, k, 1, k)
		}
	}
	open := ofSlot(b.Slots[2])
	wantFound(t, "a row ahead of all that is known", b, list{rows("m", "n"), rows("p", "")}, "k", open, 1, open, rows("m", "n"), rows("p", ""))
	wantFound(t, "a row behind all that is known", b, list{rows("a", "b"), rows("f", "h")}, "k", open, 1, rows("a", "b"), rows("f", "h"), open)
	wantFound(t, "a row in a gap", b, list{rows("a", "h"), rows("m", "n")}, "k", open, 1, rows("a", "h"), open, rows("m", "n"))
	wantFound(t, "a row in a gap of that row alone", b, list{rows("g", "k"), rows("k\x00", "n")}, "k", open, 1, open)
	wantFound(t, "a row in a gap, with others of the slot's rows", b, list{rows("a", "b"), rows("g", "i"), rows("j", "k"), rows("l", "m"), rows("m", "n")}, "k", open, 1, rows("a", "b"), open, rows("m", "n"))
	wantNotOpen(t, "a row in a gap, of a slot that is opening", b, list{rows("a", "d"), rows("e", "f")}, "d", 1, rows("a", "d"), rows("e", "f"))
}

// TestFindOfWhatIsTrue: who is known is asked, and that is all.
func TestFindOfWhatIsTrue(t *testing.T) {
	b := five()
	l := list{rows("a", "b"), known("h", "m", 8, 3, 3), rows("m", "n"), known("t", "", 9, 7, 4)}
	for _, row := range rowsOfFive()[2] {
		wantFound(t, "what is true", b, l, row, l[1], 1, l...)
	}
	for _, row := range rowsOfFive()[4] {
		wantFound(t, "what is true, without an end", b, l, row, l[3], 1, l...)
	}
}

// TestFindOfWhatIsServed: the host serves the row in that turn, and so it is told as it is known, whichever rows that has, and whatever its ID.
func TestFindOfWhatIsServed(t *testing.T) {
	b := five()
	for _, k := range []api.Known{known("h", "m", 8, 3, 3), known("h", "m", 77, 3, 3), known("h", "m", -1, 3, 3), known("k", "k\x00", 8, 3, 3), known("i", "l", 8, 3, 3), known("", "", 8, 3, 3), known("b", "z", 0, 3, 3), known("k", "", 5, 3, 3), known("", "k\x00", 9, 3, 3)} {
		wantFound(t, "what is served", b, list{k}, "k", k, 1, k)
	}
	l := list{known("a", "b", 1, 1, 1), known("k", "l", 2, 3, 3), known("l", "m", 8, 3, 3)}
	wantFound(t, "what is served, beside others", b, l, "k", l[1], 1, l...)
}

// TestFindOfWhatIsNotServed: it is forgotten, the board is asked, and what that tells is learnt.
func TestFindOfWhatIsNotServed(t *testing.T) {
	b := five()
	open := ofSlot(b.Slots[2])
	for what, k := range map[string]api.Known{
		"another host":                       known("h", "m", 8, 7, 3),
		"a host that is not there any more":  known("h", "m", 8, 9, 3),
		"a host that was never there":        known("h", "m", 8, 77, 3),
		"no host":                            known("h", "m", 8, 0, 3),
		"an older turn":                      known("h", "m", 8, 3, 2),
		"a later turn":                       known("h", "m", 8, 3, 4),
		"no turn":                            known("h", "m", 8, 3, 0),
		"a turn that can't be":               known("h", "m", 8, 3, -3),
		"another host in another turn":       known("h", "m", 8, 7, 4),
		"a part that was split since":        known("c", "m", 2, 3, 2),
		"a part that was joined since":       known("k", "m", 3, 7, 2),
		"all rows, as they were":             known("", "", 1, 7, 1),
		"rows up to the one that is asked":   known("", "k\x00", 1, 7, 1),
		"rows from the one that is asked on": known("k", "", 1, 7, 1),
	} {
		wantFound(t, what, b, list{k}, "k", open, 2, open)
		wantFound(t, what+", once more", b, list{open}, "k", open, 1, open)
	}
	l := list{known("a", "b", 1, 1, 1), known("c", "k", 2, 3, 3), known("k", "l", 8, 7, 3), known("l", "n", 3, 3, 3), known("n", "o", 4, 4, 4)}
	wantFound(t, "one that is not served, with others of the slot's rows", b, l, "k", open, 2, l[0], open, l[4])
	wantFound(t, "one that reaches beyond the slot's rows", b, list{rows("a", "k"), rows("k", "z"), rows("z", "")}, "k", open, 2, open, rows("z", ""))
}

// TestFindOfWhatIsNotOpen: what is known of the row is forgotten all the same, and of other rows of the slot it is not.
func TestFindOfWhatIsNotOpen(t *testing.T) {
	b := five()
	for _, i := range []int{0, 1, 3} {
		s := b.Slots[i]
		for _, row := range rowsOfFive()[i] {
			wantNotOpen(t, "nothing known", b, nil, row, 1)
			wantNotOpen(t, "the slot as it is", b, list{ofSlot(s)}, row, 2)
			wantNotOpen(t, "all rows", b, list{known("", "", 1, 7, 6)}, row, 2)
			wantNotOpen(t, "other rows", b, list{rows("h", "m"), rows("t", "")}, row, 1, rows("h", "m"), rows("t", ""))
			wantNotOpen(t, "the slot as it is, and other rows", b, slices.Insert(list{rows("h", "i"), rows("t", "u")}, []int{0, 0, 0, 1}[i], ofSlot(s)), row, 2, rows("h", "i"), rows("t", "u"))
		}
	}
	wantNotOpen(t, "one of several of the slot's rows", b, list{rows("m", "n"), rows("n", "o"), rows("o", "p")}, "n", 2, rows("m", "n"), rows("o", "p"))
	wantNotOpen(t, "New", assign.New(), nil, "", 1)
	wantNotOpen(t, "New, of which is known what is not", assign.New(), list{known("", "", 1, 0, 0)}, "r", 2)
}

// TestFindWithoutAnOpenSlot: nothing is ever told, and in the end nothing is known.
func TestFindWithoutAnOpenSlot(t *testing.T) {
	b := but(five(), func(b *api.Board) { b.Slots[2].State, b.Slots[4].State = 1, 3 })
	wantFineBoard(t, b)
	l := list{rows("", "c"), rows("c", "m"), known("m", "t", 5, 7, 1), known("t", "", 9, 7, 4)}
	for i, row := range []string{"b", "k", "s", "t"} {
		wantNotOpen(t, "a board without an open slot", b, l[i:], row, 2, l[i+1:]...)
		wantNotOpen(t, "the same, once more", b, l[i+1:], row, 1, l[i+1:]...)
	}
}

// TestFindWhereTheMostAreKnown: of other rows; what is told can't be learnt then, but is told all the same.
func TestFindWhereTheMostAreKnown(t *testing.T) {
	b := five()
	open := ofSlot(b.Slots[2])
	l := many(api.MaxParts)
	wantFound(t, "a row of which nothing is known, without room", b, l, "k", open, 1, l...)
	wantFound(t, "a row of which nothing is known, with room for one", b, l[1:], "k", open, 1, append(slices.Clone(l[1:]), open)...)
	wantNotOpen(t, "a slot that is not open", b, l, "d", 1, l...)
	for _, from := range []string{"h", "l", "k"} {
		some := append(many(api.MaxParts-1), rows(from, from+"a"))
		want := append(many(api.MaxParts-1), open)
		asked := 1
		if from == "k" {
			asked = 2
		}
		wantFound(t, "a row in the slot's part, of which something is known", b, some, "k", open, asked, want...)
	}
	all := manySlots(api.MaxParts)
	var known list
	for _, s := range all.Slots {
		wantFound(t, "one slot of the most", all, known, s.Part.From, ofSlot(s), 1, append(known, ofSlot(s))...)
		known = append(known, ofSlot(s))
	}
	for _, s := range all.Slots {
		wantFound(t, "one slot of the most, once more", all, known, s.Part.From, ofSlot(s), 1, known...)
	}
}

func TestFindOfWrongBoards(t *testing.T) {
	for want, b := range wrongBoards() {
		for _, l := range []list{nil, three(), {known("", "", 8, 3, 3)}, {rows("b", "a")}, many(api.MaxParts + 1)} {
			for _, row := range []string{"", "a", "d", "k", "z", x(41)} {
				wantNotFound(t, "a wrong board", b, l, row, want)
			}
		}
	}
}

// TestFindOfWhatIsWrong: what is wrong with what is known is told where the slot is open, and where it is not, whether that is of the row or not.
func TestFindOfWhatIsWrong(t *testing.T) {
	long := x(api.MaxKey + 1)
	for _, c := range []struct {
		l list
		f api.Fault
	}{
		{many(api.MaxParts + 1), fault(api.ErrMany, -10001)},
		{make(list, api.MaxParts+1), fault(api.ErrMany, -10001)},
		{list{rows(long, "")}, fault(api.ErrSize, -10000)},
		{list{rows("k", "a")}, fault(api.ErrForm, -10000)},
		{list{known("h", "m", 8, 3, 3), rows("m", long)}, fault(api.ErrSize, -9999)},
		{list{known("h", "m", 8, 3, 3), rows("m", "m")}, fault(api.ErrForm, -9999)},
		{list{known("h", "m", 8, 3, 3), known("h", "m", 8, 3, 3)}, fault(api.ErrTwice, -9999)},
		{list{known("h", "m", 8, 3, 3), rows("a", "b")}, fault(api.ErrTwice, -9999)},
		{append(many(api.MaxParts-1), many(1)[0]), fault(api.ErrTwice, -9801)},
	} {
		for _, row := range []string{"", "a", "d", "k", "q", "z", long} {
			wantNotFound(t, "what is wrong", five(), c.l, row, c.f)
			wantNotFound(t, "what is wrong, and nothing is open", assign.New(), c.l, row, c.f)
		}
	}
}
