package assign_test

import (
	"fmt"
	"math"
	"slices"
	"strings"
	"testing"

	"tabulary/api"
	"tabulary/assign"
)

type hosts = []api.Host

type slots = []api.Slot

type orders = []api.Order

func fault(code, at int) api.Fault { return api.Fault{Code: code, At: at} }

func x(n int) string { return strings.Repeat("x", n) }

// outside: numbers that are not from 0 to MaxNum.
func outside() []int { return []int{-1, api.MaxNum + 1, math.MinInt, math.MaxInt} }

func hostOf(id, epoch int, alive bool) api.Host {
	return api.Host{ID: id, Epoch: epoch, Alive: alive}
}

func slotOf(from, to string, id, state, host, turn int) api.Slot {
	return api.Slot{Part: api.Part{From: from, To: to, ID: id}, State: state, Host: host, Turn: turn}
}

// Orders, by their Kinds.

func comes(id int) api.Order { return api.Order{Kind: 1, ID: id} }

func isLost(id int) api.Order { return api.Order{Kind: 2, ID: id} }

func give(id, host int) api.Order { return api.Order{Kind: 3, ID: id, Host: host} }

func opened(id, host, turn int) api.Order {
	return api.Order{Kind: 4, ID: id, Host: host, Turn: turn}
}

func closes(id int) api.Order { return api.Order{Kind: 5, ID: id} }

func closed(id, host, turn int) api.Order {
	return api.Order{Kind: 6, ID: id, Host: host, Turn: turn}
}

func split(id int, row string) api.Order { return api.Order{Kind: 7, ID: id, Row: row} }

func join(id int) api.Order { return api.Order{Kind: 8, ID: id} }

// four: a board with a slot in each state (11 off, 4 opening at 7, 8 open at 3, 5 closing at 7), and a host that is not there any more (9).
func four() api.Board {
	return api.Board{
		Hosts: hosts{hostOf(7, 2, true), hostOf(3, 1, true), hostOf(9, 4, false)},
		Slots: slots{slotOf("", "c", 11, 0, 0, 2), slotOf("c", "m", 4, 1, 7, 6), slotOf("m", "t", 8, 2, 3, 3), slotOf("t", "", 5, 3, 7, 1)},
		Turn:  6,
		Next:  12,
	}
}

// manyHosts: so many that are Alive, of the IDs 1, 2 and so on.
func manyHosts(n int) hosts {
	var out hosts
	for i := range n {
		out = append(out, hostOf(1+i, 1, true))
	}
	return out
}

// manySlots: so many that are off, of the IDs 1, 2 and so on, in no turn.
func manySlots(n int) slots {
	out := slots{slotOf("", "", 1, 0, 0, 0)}
	for i := 1; i < n; i++ {
		row := fmt.Sprintf("row%04d", i)
		out[i-1].Part.To = row
		out = append(out, slotOf(row, "", i+1, 0, 0, 0))
	}
	return out
}

// boardOf: hosts and slots that no order has changed yet.
func boardOf(h hosts, s slots) api.Board { return api.Board{Hosts: h, Slots: s, Next: len(s) + 1} }

// but: a board in new memory, with a change.
func but(b api.Board, change func(b *api.Board)) api.Board {
	b.Hosts, b.Slots = slices.Clone(b.Hosts), slices.Clone(b.Slots)
	change(&b)
	return b
}

// withSlot: a board of which the slot at a place has a change.
func withSlot(b api.Board, at int, change func(s *api.Slot)) api.Board {
	return but(b, func(b *api.Board) { change(&b.Slots[at]) })
}

func sameBoard(a, b api.Board) bool {
	return a.Turn == b.Turn && a.Next == b.Next && slices.Equal(a.Hosts, b.Hosts) && slices.Equal(a.Slots, b.Slots)
}

// isZero: has a board nothing?
func isZero(b api.Board) bool { return sameBoard(b, api.Board{}) }

// told: what a failing test tells of something, but not of all that is long.
func told(thing any) string { return fmt.Sprintf("%.900s", fmt.Sprintf("%+v", thing)) }

func wantFault(t *testing.T, what string, got, want api.Fault) {
	t.Helper()
	if got != want {
		t.Errorf("%s: fault %v, want %v", what, got, want)
	}
}

// wantBoard: no fault, and just this board, of which Check tells nothing.
func wantBoard(t *testing.T, what string, got api.Board, f api.Fault, want api.Board) {
	t.Helper()
	wantFault(t, what, f, api.Fault{})
	if !sameBoard(got, want) {
		t.Errorf("%s: %s, want %s", what, told(got), told(want))
	}
	wantFault(t, "Check of "+what, assign.Check(got), api.Fault{})
}

// wantDone: an order is done, and leads to just this board.
func wantDone(t *testing.T, what string, b api.Board, o api.Order, want api.Board) {
	t.Helper()
	got, f := assign.Do(b, o)
	wantBoard(t, what, got, f, want)
}

// wantChange: an order is done, and just this is another thing then.
func wantChange(t *testing.T, what string, b api.Board, o api.Order, change func(b *api.Board)) {
	t.Helper()
	wantDone(t, what, b, o, but(b, change))
}

// wantRefused: an order has just this fault, and nothing else is answered; whatever it has beside what its Kind looks at.
func wantRefused(t *testing.T, what string, b api.Board, o api.Order, want api.Fault) {
	t.Helper()
	got, f := assign.Do(b, o)
	wantFault(t, what, f, want)
	if !isZero(got) {
		t.Errorf("%s: %s beside a fault", what, told(got))
	}
}

// wantDueAlone: just these orders are due.
func wantDueAlone(t *testing.T, what string, b api.Board, want ...api.Order) {
	t.Helper()
	got, f := assign.Due(b)
	wantFault(t, "Due of "+what, f, api.Fault{})
	if !slices.Equal(got, want) {
		t.Errorf("Due of %s: %s, want %s", what, told(got), told(want))
	}
}

// wantDue: just these orders are due, and they are done, one behind the other.
func wantDue(t *testing.T, what string, b api.Board, want ...api.Order) {
	t.Helper()
	wantDueAlone(t, what, b, want...)
	mustDo(t, b, want...)
}

// mustDo: the board behind orders, all of which are done.
func mustDo(t *testing.T, b api.Board, all ...api.Order) api.Board {
	t.Helper()
	for _, o := range all {
		then, f := assign.Do(b, o)
		if f != (api.Fault{}) {
			t.Fatalf("%v of %s: fault %v", o, told(b), f)
		}
		b = then
	}
	return b
}

// number makes numbers below n that look like nothing, the same ones in each run.
type number uint32

func (s *number) below(n int) int {
	*s = *s*1664525 + 1013904223
	return int(*s>>16) % n
}

// of: one of these numbers.
func (s *number) of(l ...int) int { return l[s.below(len(l))] }

// mixed: the numbers from 1 to n, in whatever order.
func (s *number) mixed(n int) []int {
	var out []int
	for i := range n {
		out = append(out, i+1)
		j := s.below(i + 1)
		out[i], out[j] = out[j], out[i]
	}
	return out
}
