package locate_test

import (
	"slices"
	"testing"

	"tabulary/api"
	"tabulary/assign"
	"tabulary/locate"
)

// finder: Find, or another one on trial.
type finder func(b api.Board, l list, row string) (answer, api.Fault)

// look tells what is wrong with how a row is found: whatever is known, it is told who serves the row, if one does, and at most two are asked; once more, one is.
func look(by finder, b api.Board, l list, row string) string {
	s := slotByHand(b, row)
	got, f := by(b, l, row)
	wrong := lookAtFound(s, got, f)
	if got.asked > 2 {
		wrong += "more than two are asked; "
	}
	again, g := by(b, got.known, row)
	wrong += lookAtFound(s, again, g)
	if again.asked != 1 {
		wrong += "once more, not just one is asked; "
	}
	if again.told != got.told || !slices.Equal(again.known, got.known) {
		wrong += "once more, it is not the same; "
	}
	return wrong
}

// lookAtFound tells what is wrong with what is told of a row that a slot has.
func lookAtFound(s api.Slot, got answer, f api.Fault) string {
	wrong := ""
	if got.asked < 1 {
		wrong += "nobody is asked; "
	}
	if f := locate.Check(got.known); f != (api.Fault{}) {
		wrong += "what is known is wrong; "
	}
	isOpen := s.State == 2
	if isOpen != (f == api.Fault{}) || !isOpen && f != fault(api.ErrNone, 0) {
		return wrong + "it is told of a slot that is not open, or not told of one that is; "
	}
	if isOpen && (got.told.Host != s.Host || got.told.Turn != s.Turn) {
		wrong += "it is told of one who does not serve it; "
	}
	if !isOpen && got.told != (api.Known{}) {
		wrong += "something is told of a slot that is not open; "
	}
	return wrong
}

// client finds rows, and knows what it found. What it knew a while ago is kept, too.
type client struct{ now, ago list }

// run is a board to which orders come as they may, and clients that find rows on it.
type run struct {
	*number
	board   api.Board
	clients []client
	ways    map[way]int
	// How often a row was found where there was no room to learn it.
	full int
}

func newRun(s *number) *run {
	return &run{number: s, board: assign.New(), clients: make([]client, 3), ways: map[way]int{}}
}

// anyHost: the ID of a host of the board, or of one that is not there.
func (r *run) anyHost() int {
	if len(r.board.Hosts) == 0 || r.below(9) == 0 {
		return 1 + r.below(6)
	}
	return anyOf(r.number, r.board.Hosts).ID
}

// anyOrder: one that may well be done.
func (r *run) anyOrder() api.Order {
	s := anyOf(r.number, r.board.Slots)
	o := api.Order{ID: s.Part.ID, Host: s.Host, Turn: s.Turn}
	switch s.State {
	case 0:
		o.Kind, o.Host, o.Row = r.of(3, 3, 3, 3, 7, 7, 8), r.anyHost(), shortRow(r.number)
	case 1:
		o.Kind = 4
	case 2:
		o.Kind = 5
	case 3:
		o.Kind = 6
	}
	if r.below(12) == 0 {
		o.Kind, o.ID = r.of(1, 1, 2), r.anyHost()
	}
	return o
}

// order has an order come, which may be refused.
func (r *run) order() {
	o := r.anyOrder()
	// What is open mostly stays so for a while.
	if o.Kind == 5 && r.below(5) > 0 {
		return
	}
	if then, f := assign.Do(r.board, o); f == (api.Fault{}) {
		r.board = then
	}
}

// wantFound: a row is found by what a client knows, and nothing is wrong with how.
func (r *run) wantFound(t *testing.T, l list, row string) list {
	t.Helper()
	if wrong := look(find, r.board, l, row); wrong != "" {
		t.Fatalf("%.50q by %s on %s: %s", row, told(l), told(r.board), wrong)
	}
	got, f := find(r.board, l, row)
	more := len(got.known) - len(l)
	r.ways[way{f.Code, got.asked, max(-1, more)}]++
	if f == (api.Fault{}) && got.asked == 1 && more == 0 && len(lookByHand(l, row)) == 0 && len(l) == api.MaxParts {
		r.full++
	}
	return got.known
}

// happen: an order comes; then rows are found by what is known now, was known a while ago, and is false.
func (r *run) happen(t *testing.T) {
	t.Helper()
	r.order()
	for i := range r.clients {
		c := &r.clients[i]
		if r.below(i+1) == 0 {
			c.now = r.wantFound(t, c.now, anyRow(r.number))
		}
		r.wantFound(t, c.ago, anyRow(r.number))
		if r.below(30) == 0 {
			c.ago = c.now
		}
	}
	r.wantFound(t, withTrue(r.number, anyKnowns(r.number), r.board), anyRow(r.number))
}

// TestWhateverIsKnown: on many boards, by what is true, old and false.
func TestWhateverIsKnown(t *testing.T) {
	s := number(9)
	ways, full := map[way]int{}, 0
	for range 40 {
		r := newRun(&s)
		for range 200 {
			r.happen(t)
		}
		for w, n := range r.ways {
			ways[w] += n
		}
		full += r.full
	}
	// To look for what should not be tells little where little happens.
	for _, w := range []way{{0, 1, 1}, {0, 1, 0}, {0, 1, -1}, {0, 2, 0}, {0, 2, -1}, {api.ErrNone, 1, 0}, {api.ErrNone, 2, -1}} {
		if ways[w] < 100 {
			t.Errorf("%v comes %d times alone", w, ways[w])
		}
	}
	if full < 50 {
		t.Errorf("%d rows are found alone where there is no room", full)
	}
}

// TestTheMostIsKnown: a client that has found a row in each of as many slots as there may be, with others between, still finds those of a board of other slots.
func TestTheMostIsKnown(t *testing.T) {
	old, b := manySlots(api.MaxParts), manySlots(3)
	var l list
	for _, s := range old.Slots {
		l, _, _, _ = locate.Find(old, l, s.Part.From)
	}
	b.Slots[1].Part.To, b.Slots[2].Part.From = "row0001\x00", "row0001\x00"
	wantFineBoard(t, b)
	for _, known := range []list{l, many(api.MaxParts), slices.Concat(l[:100], l[101:])} {
		for _, row := range someRows() {
			if wrong := look(find, b, known, row); wrong != "" {
				t.Errorf("%.50q: %s", row, wrong)
			}
		}
		for _, k := range l {
			if wrong := look(find, b, known, k.Part.From); wrong != "" {
				t.Errorf("%.50q: %s", k.Part.From, wrong)
			}
		}
	}
}

// TestLooksSee: what should not be is seen.
func TestLooksSee(t *testing.T) {
	b, old := five(), list{known("h", "m", 8, 7, 3), rows("y", "z")}
	if wrong := look(find, b, old, "k"); wrong != "" {
		t.Errorf("of what is right is seen: %s", wrong)
	}
	changed := func(change func(a *answer, f *api.Fault)) finder {
		return func(b api.Board, l list, row string) (answer, api.Fault) {
			a, f := find(b, l, row)
			change(&a, &f)
			return a, f
		}
	}
	for what, by := range map[string]finder{
		"nothing is told":             changed(func(a *answer, f *api.Fault) { a.told = api.Known{} }),
		"another host is told":        changed(func(a *answer, f *api.Fault) { a.told.Host = 7 }),
		"another turn is told":        changed(func(a *answer, f *api.Fault) { a.told.Turn = 2 }),
		"ErrNone":                     changed(func(a *answer, f *api.Fault) { *f = fault(api.ErrNone, 0) }),
		"another fault":               changed(func(a *answer, f *api.Fault) { *f = fault(api.ErrMany, -2) }),
		"three are asked":             changed(func(a *answer, f *api.Fault) { a.asked++ }),
		"none is asked":               changed(func(a *answer, f *api.Fault) { a.asked-- }),
		"what is known stays as old":  changed(func(a *answer, f *api.Fault) { a.known = old }),
		"the same is known twice":     changed(func(a *answer, f *api.Fault) { a.known = append(a.known, a.known...) }),
		"what is known has no order":  changed(func(a *answer, f *api.Fault) { slices.Reverse(a.known) }),
		"too much is known":           changed(func(a *answer, f *api.Fault) { a.known = many(api.MaxParts + 1) }),
		"what is known is not learnt": changed(func(a *answer, f *api.Fault) { a.known = slices.Clone(old[:a.asked-1]) }),
	} {
		if look(by, b, old, "k") == "" {
			t.Errorf("%s: is not seen", what)
		}
	}
	told := changed(func(a *answer, f *api.Fault) { a.told = rows("c", "h") })
	if look(told, b, nil, "d") == "" {
		t.Error("what is told of a slot that is not open is not seen")
	}
	fine := changed(func(a *answer, f *api.Fault) { *f = api.Fault{} })
	if look(fine, b, nil, "d") == "" {
		t.Error("a fault that is not told is not seen")
	}
}
