package assign_test

import (
	"slices"
	"testing"

	"tabulary/api"
	"tabulary/assign"
)

// gift: which slot was given, and to which host.
type gift struct{ slot, host int }

// run is a board to which orders come as they may, and all that was seen of it.
type run struct {
	*number
	board api.Board
	// All orders that came, what was said of them, and those that were done and are over.
	sent orders
	said []api.Fault
	over orders
	// What was given in each turn.
	gifts map[int]gift
	// How likely each Kind of order is, for a while.
	temper [9]int
}

func newRun(s *number) *run {
	r := &run{number: s, board: assign.New(), gifts: map[int]gift{}}
	r.turnTemper()
	return r
}

func (r *run) turnTemper() {
	for kind := 1; kind <= 8; kind++ {
		r.temper[kind] = r.of(0, 1, 1, 2, 4, 8)
	}
	// What is given is mostly opened.
	r.temper[4] += r.temper[3]
}

// anyKind: one that the temper likes.
func (r *run) anyKind() int {
	all := 1
	for _, n := range r.temper {
		all += n
	}
	left := r.below(all)
	for kind, n := range r.temper {
		if left < n {
			return kind
		}
		left -= n
	}
	return 9
}

// anySlot: one in a state, if there is one.
func (r *run) anySlot(state int) api.Slot {
	some := slices.DeleteFunc(slices.Clone(r.board.Slots), func(s api.Slot) bool { return s.State != state })
	if len(some) == 0 {
		some = r.board.Slots
	}
	return some[r.below(len(some))]
}

// anyNew: an order that nobody sent yet, or that may well be done.
func (r *run) anyNew() api.Order {
	kind := r.anyKind()
	// The state in which a slot must be for each Kind.
	s := r.anySlot([]int{0, 0, 0, 0, 1, 2, 3, 0, 0, 0}[kind])
	o := api.Order{Kind: kind, ID: s.Part.ID, Host: s.Host, Turn: s.Turn}
	switch kind {
	case 1, 2:
		o.ID = 1 + r.below(r.of(2, 3, 5, 25))
	case 3:
		o.Host = 1 + r.below(5)
		if n := len(r.board.Hosts); n > 0 {
			o.Host = r.board.Hosts[r.below(n)].ID
		}
	case 7:
		o.Row = s.Part.From + string(rune('a'+r.below(26)))
	}
	return o
}

// next: an order that is new, or late, or doubled, or due.
func (r *run) next(t *testing.T) api.Order {
	if r.below(60) == 0 {
		r.turnTemper()
	}
	if len(r.sent) > 0 && r.below(4) == 0 {
		return r.sent[max(0, len(r.sent)-1-r.below(r.of(1, 5, 50, 2000)))]
	}
	due, f := assign.Due(r.board)
	wantFault(t, "Due", f, api.Fault{})
	if len(due) > 0 && r.below(9) < r.temper[3] {
		return due[r.below(len(due))]
	}
	return r.anyNew()
}

// anyOrders: so many, as they may come.
func (r *run) anyOrders(t *testing.T, n int) orders {
	t.Helper()
	for range n {
		r.come(t, r.next(t))
	}
	return r.sent
}

// come does an order, or lets it be refused.
func (r *run) come(t *testing.T, o api.Order) bool {
	t.Helper()
	then, f := assign.Do(r.board, o)
	want, wanted := doByHand(r.board, o)
	if f != wanted || !sameBoard(then, want) {
		t.Fatalf("%v of %s: %s, %v, want %s, %v", o, told(r.board), told(then), f, told(want), wanted)
	}
	r.sent, r.said = append(r.sent, o), append(r.said, f)
	if f != (api.Fault{}) {
		return false
	}
	r.board = then
	if isOver(o) {
		r.over = append(r.over, o)
	}
	return true
}

// wantPlay: Play tells the same.
func (r *run) wantPlay(t *testing.T) api.Board {
	t.Helper()
	b, said, f := assign.Play(r.sent)
	if f != (api.Fault{}) || !sameBoard(b, r.board) || !slices.Equal(said, r.said) {
		t.Fatalf("Play of %v: %s, %v, %v, want %s, %v", r.sent, told(b), said, f, told(r.board), r.said)
	}
	return b
}

// lookAtBoard tells what is wrong with a board: its slots tile the rows, and none is at a host that is not there.
func lookAtBoard(b api.Board) string {
	if f := assign.Check(b); f != (api.Fault{}) {
		return "Check tells a fault"
	}
	for _, s := range b.Slots {
		for _, row := range []string{s.Part.From, s.Part.From + "\x00", s.Part.To, s.Part.From + "m"} {
			if len(having(b, row)) != 1 {
				return "a row is not in just one slot"
			}
		}
		if s.Host != 0 && !isAlive(b, s.Host) || (s.State == 0) != (s.Host == 0) {
			return "a slot is at a host that is not there"
		}
	}
	return ""
}

// having: the numbers of all slots that have a row.
func having(b api.Board, row string) []int {
	var out []int
	for i, s := range b.Slots {
		if row >= s.Part.From && (s.Part.To == "" || row < s.Part.To) {
			out = append(out, i)
		}
	}
	return out
}

func isAlive(b api.Board, id int) bool {
	return slices.ContainsFunc(b.Hosts, func(h api.Host) bool { return h.ID == id && h.Alive })
}

// lookAtTurns tells whether a turn is seen to be given to two.
func (r *run) lookAtTurns() string {
	for _, s := range r.board.Slots {
		if s.Turn == 0 {
			continue
		}
		was, is := r.gifts[s.Turn]
		if is && (was.slot != s.Part.ID || s.Host != 0 && was.host != s.Host) {
			return "a turn was given twice"
		}
		if !is {
			r.gifts[s.Turn] = gift{s.Part.ID, s.Host}
		}
	}
	return ""
}

// lookAtGift tells whether an order 3 that was done gave a turn that was given ahead.
func (r *run) lookAtGift(o api.Order) string {
	i := slices.IndexFunc(r.board.Slots, func(s api.Slot) bool { return s.Part.ID == o.ID })
	if _, is := r.gifts[r.board.Slots[i].Turn]; is {
		return "a turn is given again"
	}
	return ""
}

// isOver tells whether an order, once it was done, can never be done again: the turn, or the slot, that it is of is gone.
func isOver(o api.Order) bool { return o.Kind == 4 || o.Kind >= 6 }

// lookAtAgain tells whether one of some orders that were done would be done again.
func (r *run) lookAtAgain(some ...api.Order) string {
	for _, o := range some {
		if _, f := assign.Do(r.board, o); f == (api.Fault{}) {
			return "an order that was done is done again"
		}
	}
	return ""
}

// anyOver: some of the orders that are over.
func (r *run) anyOver() orders {
	var out orders
	for range min(len(r.over), 5) {
		out = append(out, r.over[r.below(len(r.over))])
	}
	return out
}

// lookAtDue tells whether, where a host is there, what is due, and what is opened, leaves a slot off.
func (r *run) lookAtDue() string {
	b := r.board
	due, f := assign.Due(b)
	if f != (api.Fault{}) {
		return "Due tells a fault"
	}
	if !slices.ContainsFunc(b.Hosts, func(h api.Host) bool { return h.Alive }) {
		if len(due) > 0 {
			return "something is due where no host is there"
		}
		return ""
	}
	for _, o := range due {
		if b, f = assign.Do(b, o); f != (api.Fault{}) {
			return "what is due can't be done"
		}
	}
	for _, s := range b.Slots {
		if s.State != 1 {
			continue
		}
		if b, f = assign.Do(b, opened(s.Part.ID, s.Host, s.Turn)); f != (api.Fault{}) {
			return "what is due can't be opened"
		}
	}
	if slices.ContainsFunc(b.Slots, func(s api.Slot) bool { return s.State < 2 }) {
		return "what is due, and what is opened, leaves a slot off"
	}
	return ""
}

// happen has an order come, and looks at what may never be; every so many orders, at all of it.
func (r *run) happen(t *testing.T, each int) {
	t.Helper()
	o, wrong := r.next(t), ""
	if r.come(t, o) {
		if o.Kind == 3 {
			wrong += r.lookAtGift(o)
		}
		wrong += r.lookAtAgain(o)
	}
	wrong += r.lookAtAgain(r.anyOver()...)
	b := r.board
	if len(r.sent)%each == 0 {
		b = r.wantPlay(t)
		wrong += r.lookAtDue() + r.lookAtAgain(r.over...)
	}
	if wrong += lookAtBoard(b) + r.lookAtTurns(); wrong != "" {
		t.Fatalf("%s, behind %v", wrong, r.sent)
	}
}

// seen: what happened in many runs: how often each Kind was done and refused, and the most hosts and slots.
type seen struct {
	done, refused [10]int
	hosts, slots  int
}

func (n *seen) add(r *run) {
	for i, o := range r.sent {
		if r.said[i] == (api.Fault{}) {
			n.done[o.Kind]++
		} else {
			n.refused[o.Kind]++
		}
	}
	n.hosts, n.slots = max(n.hosts, len(r.board.Hosts)), max(n.slots, len(r.board.Slots))
}

// wantMuch: to look for what should not be tells little where little happens.
func (n *seen) wantMuch(t *testing.T, each, hosts, slots int) {
	t.Helper()
	for kind := 1; kind <= 8; kind++ {
		if n.done[kind] < each || n.refused[kind] < each {
			t.Errorf("of the Kind %d, %d orders are done, and %d refused, which is little", kind, n.done[kind], n.refused[kind])
		}
	}
	if n.hosts < hosts || n.slots < slots {
		t.Errorf("at the most %d hosts and %d slots are there, which is little", n.hosts, n.slots)
	}
}

// TestWhateverHappens: behind every order, all is looked at, as Play tells it.
func TestWhateverHappens(t *testing.T) {
	s, all := number(11), seen{}
	for range 150 {
		r := newRun(&s)
		for range 150 {
			r.happen(t, 1)
		}
		all.add(r)
	}
	all.wantMuch(t, 200, 10, 10)
}

// TestWhateverHappensLong: as many orders as may be.
func TestWhateverHappensLong(t *testing.T) {
	s, all := number(12), seen{}
	for range 8 {
		r := newRun(&s)
		for range api.MaxOps {
			r.happen(t, 250)
		}
		all.add(r)
	}
	all.wantMuch(t, 100, api.MaxHosts, 20)
}

// TestLooksSee: what should not be is seen.
func TestLooksSee(t *testing.T) {
	s := number(13)
	for what, b := range map[string]api.Board{
		"a wrong Next":                 but(four(), func(b *api.Board) { b.Next = 5 }),
		"rows that no slot has":        withSlot(four(), 0, func(s *api.Slot) { s.Part.To = "b" }),
		"a slot at a host that is off": but(four(), func(b *api.Board) { b.Hosts[0].Alive = false }),
	} {
		if lookAtBoard(b) == "" {
			t.Errorf("%s is not seen", what)
		}
	}
	if wrong := lookAtBoard(four()); wrong != "" {
		t.Errorf("of a board that is fine is seen: %s", wrong)
	}
	r := newRun(&s)
	r.board = four()
	if wrong := r.lookAtTurns() + r.lookAtDue(); wrong != "" {
		t.Errorf("of a board that is fine is seen: %s", wrong)
	}
	if r.lookAtGift(give(11, 7)) == "" {
		t.Error("a turn that is given again is not seen")
	}
	r.board.Slots[1].Turn = 3
	if r.lookAtTurns() == "" {
		t.Error("a turn of another slot is not seen")
	}
	r.board = four()
	r.board.Slots[1].Host = 3
	if r.lookAtTurns() == "" {
		t.Error("a turn of another host is not seen")
	}
	r.board = four()
	if r.lookAtAgain(comes(7), opened(4, 7, 6)) == "" {
		t.Error("an order that may be done again is not seen")
	}
	if wrong := r.lookAtAgain(comes(7), opened(4, 3, 6)); wrong != "" {
		t.Errorf("of orders that are refused is seen: %s", wrong)
	}
}
