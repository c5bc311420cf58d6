package locate_test

import (
	"bytes"
	"slices"
	"testing"

	"tabulary/api"
	"tabulary/assign"
	"tabulary/locate"
)

// isBelow: by the library's order of bytes.
func isBelow(a, b string) bool { return bytes.Compare([]byte(a), []byte(b)) < 0 }

// hasByHand: does a part have a row?
func hasByHand(p api.Part, row string) bool {
	return !isBelow(row, p.From) && (p.To == "" || isBelow(row, p.To))
}

// meetByHand: do two parts, each of which has rows, have one in common? Then one of them has the row with which the other one begins.
func meetByHand(p, q api.Part) bool { return hasByHand(p, q.From) || hasByHand(q, p.From) }

// codeByHand: what Check promises of one part, of which those ahead are fine.
func codeByHand(k api.Known, ahead list) int {
	p := k.Part
	isTwice := func(o api.Known) bool { return meetByHand(o.Part, p) || isBelow(p.From, o.Part.From) }
	switch {
	case len(p.From) > 40 || len(p.To) > 40:
		return api.ErrSize
	case p.To != "" && !isBelow(p.From, p.To):
		return api.ErrForm
	case slices.ContainsFunc(ahead, isTwice):
		return api.ErrTwice
	}
	return api.OK
}

// checkByHand: what Check promises.
func checkByHand(l list) api.Fault {
	if len(l) > 200 {
		return fault(api.ErrMany, -1)
	}
	for i, k := range l {
		if code := codeByHand(k, l[:i]); code != api.OK {
			return fault(code, i)
		}
	}
	return api.Fault{}
}

// lookByHand: the numbers of all that is known of a row.
func lookByHand(l list, row string) []int {
	var out []int
	for i, k := range l {
		if hasByHand(k.Part, row) {
			out = append(out, i)
		}
	}
	return out
}

// putByHand: what is known, with one more, in the stead of what has a row in common with it.
func putByHand(l list, k api.Known) list {
	out := slices.DeleteFunc(slices.Clone(l), func(o api.Known) bool { return meetByHand(o.Part, k.Part) })
	return slices.SortedFunc(slices.Values(append(out, k)), func(a, b api.Known) int { return bytes.Compare([]byte(a.Part.From), []byte(b.Part.From)) })
}

// learnByHand: what Learn promises.
func learnByHand(l list, k api.Known) (list, api.Fault) {
	if f := checkByHand(l); f != (api.Fault{}) {
		return nil, f
	}
	if code := codeByHand(k, nil); code != api.OK {
		return nil, fault(code, -1)
	}
	out := putByHand(l, k)
	if len(out) > 200 {
		return nil, fault(api.ErrMany, -2)
	}
	return out, api.Fault{}
}

// slotByHand: the slot that has a row.
func slotByHand(b api.Board, row string) api.Slot {
	for _, s := range b.Slots {
		if hasByHand(s.Part, row) {
			return s
		}
	}
	return api.Slot{}
}

// servesByHand: what Serves promises of a board without a fault.
func servesByHand(b api.Board, host, turn int, row string) bool {
	s := slotByHand(b, row)
	return s == api.Slot{Part: s.Part, State: 2, Host: host, Turn: turn}
}

// findByHand: what Find promises.
func findByHand(b api.Board, l list, row string) (answer, api.Fault) {
	if f := assign.Check(b); f != (api.Fault{}) {
		return answer{}, f
	}
	if f := checkByHand(l); f != (api.Fault{}) {
		return answer{}, fault(f.Code, f.At-10000)
	}
	out := answer{known: l}
	for _, i := range lookByHand(l, row) {
		out.asked++
		if k := l[i]; servesByHand(b, k.Host, k.Turn, row) {
			out.told = k
			return out, api.Fault{}
		}
		out.known = slices.Delete(slices.Clone(l), i, i+1)
	}
	out.asked++
	s := slotByHand(b, row)
	if s.State != 2 {
		return out, fault(api.ErrNone, 0)
	}
	out.told = ofSlot(s)
	if then, f := learnByHand(out.known, out.told); f == (api.Fault{}) {
		out.known = then
	}
	return out, api.Fault{}
}

// anyRow: one that a part may begin with, or that it may not.
func anyRow(s *number) string { return anyOf(s, someRows()) }

// shortRow: one that a part may begin with.
func shortRow(s *number) string {
	if row := anyRow(s); len(row) <= api.MaxKey {
		return row
	}
	return ""
}

// anyKnown: one that is fine by itself.
func anyKnown(s *number) api.Known {
	from, to := shortRow(s), shortRow(s)
	if s.below(8) == 0 {
		to = ""
	}
	if isBelow(to, from) && to != "" {
		from, to = to, from
	}
	if from == to {
		to = ""
	}
	return known(from, to, s.below(12), s.of(0, 1, 3, 7, 9), s.below(8))
}

// anyKnowns: what is fine, of whatever parts.
func anyKnowns(s *number) list {
	var out list
	if s.below(6) == 0 {
		out = many(s.of(198, 199, 200, 200))
	}
	for range s.below(8) {
		k := anyKnown(s)
		meets := func(o api.Known) bool { return meetByHand(o.Part, k.Part) }
		if len(out) < 200 && !slices.ContainsFunc(out, meets) {
			out = putByHand(out, k)
		}
	}
	return out
}

// spoil makes one thing of what is known another one, which may be wrong.
func spoil(s *number, l list) list {
	l = slices.Clone(l)
	if len(l) == 0 {
		return append(l, anyKnown(s))
	}
	k := &l[s.below(min(9, len(l)))]
	switch s.below(6) {
	case 0:
		k.Part.From = anyRow(s)
	case 1:
		k.Part.To = anyRow(s)
	case 2:
		k.Part.To = k.Part.From + "\x00"
	case 3:
		*k = l[s.below(len(l))]
	case 4:
		l = append(l, many(s.of(1, 5, 201))...)
	case 5:
		l = append(l, anyKnown(s))
	}
	return l
}

// TestWhateverIsChecked: lists of which some things are changed, held against what is looked for by hand; all calls tell the same.
func TestWhateverIsChecked(t *testing.T) {
	s := number(1)
	codes := map[int]int{}
	for range 10000 {
		l := anyKnowns(&s)
		wantFine(t, "whatever", l)
		for range 1 + s.below(3) {
			l = spoil(&s, l)
		}
		want := checkByHand(l)
		codes[want.Code]++
		if want == (api.Fault{}) {
			wantFine(t, "whatever", l)
			continue
		}
		wantFault(t, "Check of whatever", locate.Check(l), want)
		n, is, f := locate.Look(l, anyRow(&s))
		wantFault(t, "Look of whatever", f, want)
		if n != 0 || is {
			t.Fatalf("Look of %s: %d and %t beside a fault", told(l), n, is)
		}
		wantNotLearnt(t, "whatever", l, anyKnown(&s), want)
		wantNotFound(t, "whatever", five(), l, anyRow(&s), fault(want.Code, want.At-10000))
	}
	for _, code := range []int{api.OK, api.ErrMany, api.ErrSize, api.ErrForm, api.ErrTwice} {
		if codes[code] < 200 {
			t.Errorf("the code %d is told %d times alone", code, codes[code])
		}
	}
}

// TestWhateverIsLookedFor: just one of what is known has a row, or none.
func TestWhateverIsLookedFor(t *testing.T) {
	s := number(2)
	var found [2]int
	for range 4000 {
		l := anyKnowns(&s)
		for range 5 {
			row := anyRow(&s)
			has := append(lookByHand(l, row), -1)
			if len(has) > 2 {
				t.Fatalf("%v of %s have %q", has, told(l), row)
			}
			wantLook(t, l, row, has[0])
			found[len(has)-1]++
		}
	}
	if found[0] < 2000 || found[1] < 2000 {
		t.Errorf("of rows, %d have none, and %d have one", found[0], found[1])
	}
}

// TestWhateverIsLearnt: also where there is no room, held against what is done by hand.
func TestWhateverIsLearnt(t *testing.T) {
	s := number(3)
	codes, gone := map[int]int{}, map[int]int{}
	for range 8000 {
		l, k := anyKnowns(&s), anyKnown(&s)
		if s.below(2) == 0 {
			k = spoil(&s, list{k})[0]
		}
		got, f := locate.Learn(l, k)
		want, wanted := learnByHand(l, k)
		if f != wanted || !slices.Equal(got, want) {
			t.Fatalf("Learn of %s and %s: %s, %v, want %s, %v", told(l), told(k), told(got), f, told(want), wanted)
		}
		codes[f.Code]++
		if f != (api.Fault{}) {
			continue
		}
		wantFine(t, "whatever is learnt", got)
		wantLearnt(t, "the same, once more", got, k, got...)
		gone[len(l)+1-len(got)]++
	}
	for _, code := range []int{api.OK, api.ErrMany, api.ErrSize, api.ErrForm} {
		if codes[code] < 60 {
			t.Errorf("the code %d is told %d times alone", code, codes[code])
		}
	}
	for n := range 4 {
		if gone[n] < 100 {
			t.Errorf("%d go %d times alone", n, gone[n])
		}
	}
}

// anyBoard: one without a fault, of parts that begin as those of what is known do.
func anyBoard(s *number) api.Board {
	b := api.Board{Hosts: []api.Host{{ID: 7, Epoch: 1, Alive: true}, {ID: 1, Epoch: 1, Alive: true}, {ID: 9, Epoch: 2}, {ID: 3, Epoch: 5, Alive: true}}, Turn: 9, Next: 40}
	begins := []string{""}
	for range s.of(0, 1, 2, 3, 8) {
		begins = append(begins, shortRow(s))
	}
	slices.Sort(begins)
	for i, row := range slices.Compact(begins) {
		slot := slotOf(row, "", 30-i, s.below(4), s.of(7, 1, 3), 1+(i*4)%9)
		if slot.State == 0 {
			slot.Host = 0
		}
		if i > 0 {
			b.Slots[i-1].Part.To = row
		}
		b.Slots = append(b.Slots, slot)
	}
	return b
}

// withTrue: what is known, with more, some of which is true of a board, but for its rows, and some of one row alone.
func withTrue(s *number, l list, b api.Board) list {
	for range s.below(6) {
		k := ofSlot(anyOf(s, b.Slots))
		switch s.below(4) {
		case 0, 1:
			k.Part.From += "\x00"
		case 2:
			row := shortRow(s)
			k = known(row, row+"\x00", 1, 7, s.below(8))
		}
		if codeByHand(k, nil) == api.OK && len(putByHand(l, k)) <= 200 {
			l = putByHand(l, k)
		}
	}
	return l
}

// TestWhateverIsServed: of boards as they come, held against what is done by hand.
func TestWhateverIsServed(t *testing.T) {
	s := number(4)
	serves := 0
	for range 4000 {
		b := anyBoard(&s)
		wantFineBoard(t, b)
		for range 8 {
			row := anyRow(&s)
			slot := slotByHand(b, row)
			host, turn := s.of(slot.Host, slot.Host, 7, 9, 0), s.of(slot.Turn, slot.Turn, slot.Turn+1, 0, 3)
			want := servesByHand(b, host, turn, row)
			wantServes(t, b, host, turn, row, want)
			if want {
				serves++
			}
		}
	}
	if serves < 1000 {
		t.Errorf("%d serve alone", serves)
	}
}

// way: how a row was found: the code that was told, how often one was asked, and how many more are known then.
type way struct{ code, asked, more int }

// TestWhateverIsFound: of boards and lists as they come, also of wrong ones, held against what is done by hand.
func TestWhateverIsFound(t *testing.T) {
	s := number(5)
	ways := map[way]int{}
	for range 10000 {
		b := anyBoard(&s)
		l := withTrue(&s, anyKnowns(&s), b)
		if s.below(20) == 0 {
			l = spoil(&s, l)
		}
		if s.below(40) == 0 {
			b.Turn = s.of(-1, 0, 3)
		}
		row := anyRow(&s)
		got, f := find(b, l, row)
		want, wanted := findByHand(b, l, row)
		if f != wanted || !got.is(want) {
			t.Fatalf("Find of %.50q, %s and %s: %s, %v, want %s, %v", row, told(b), told(l), told(got), f, told(want), wanted)
		}
		ways[way{f.Code, got.asked, len(got.known) - len(l)}]++
	}
	for _, w := range []way{{0, 1, 0}, {0, 1, 1}, {0, 1, -1}, {0, 2, 0}, {0, 2, -1}, {api.ErrNone, 1, 0}, {api.ErrNone, 2, -1}} {
		if ways[w] < 40 {
			t.Errorf("%v comes %d times alone", w, ways[w])
		}
	}
}
