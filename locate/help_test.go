package locate_test

import (
	"fmt"
	"math"
	"slices"
	"strings"
	"testing"

	"tabulary/api"
	"tabulary/assign"
	"tabulary/locate"
)

type list = []api.Known

type slots = []api.Slot

func fault(code, at int) api.Fault { return api.Fault{Code: code, At: at} }

func x(n int) string { return strings.Repeat("x", n) }

// known of the rows from from on, ahead of to: a slot of this ID is at that host, since a turn.
func known(from, to string, id, host, turn int) api.Known {
	return api.Known{Part: api.Part{From: from, To: to, ID: id}, Host: host, Turn: turn}
}

// rows: known of these rows, whoever serves them.
func rows(from, to string) api.Known { return known(from, to, 0, 0, 0) }

// three: what is known of three parts, with gaps ahead of all, between all, and behind all; of the first two, the gap is just the row m.
func three() list {
	return list{known("c", "m", 4, 7, 6), known("m\x00", "p", 8, 3, 3), known("t", "x", 5, 7, 1)}
}

// many: so many parts side by side, each of one row alone, behind the row that is a and ahead of b.
func many(n int) list {
	var out list
	for i := range n {
		row := fmt.Sprintf("a%04d", i)
		out = append(out, known(row, row+"\x00", i, i%20, i))
	}
	return out
}

func slotOf(from, to string, id, state, host, turn int) api.Slot {
	return api.Slot{Part: api.Part{From: from, To: to, ID: id}, State: state, Host: host, Turn: turn}
}

// five: a board with a slot that is off, one that is opening at 7, one open at 3, one closing at 7, and one open at 7; and a host that is not there any more.
func five() api.Board {
	return api.Board{
		Hosts: []api.Host{{ID: 7, Epoch: 2, Alive: true}, {ID: 3, Epoch: 1, Alive: true}, {ID: 9, Epoch: 4}},
		Slots: slots{slotOf("", "c", 11, 0, 0, 2), slotOf("c", "h", 4, 1, 7, 6), slotOf("h", "m", 8, 2, 3, 3), slotOf("m", "t", 5, 3, 7, 1), slotOf("t", "", 9, 2, 7, 4)},
		Turn:  6,
		Next:  12,
	}
}

// ofSlot: what is to be known of a slot.
func ofSlot(s api.Slot) api.Known { return api.Known{Part: s.Part, Host: s.Host, Turn: s.Turn} }

// manySlots: a board of so many, the first of which has the rows ahead of row0001, all open at the host 1, each in the turn of its ID.
func manySlots(n int) api.Board {
	b := api.Board{Hosts: []api.Host{{ID: 1, Epoch: 1, Alive: true}}, Slots: slots{slotOf("", "", 1, 2, 1, 1)}, Turn: n, Next: n + 1}
	for i := 1; i < n; i++ {
		row := fmt.Sprintf("row%04d", i)
		b.Slots[i-1].Part.To = row
		b.Slots = append(b.Slots, slotOf(row, "", i+1, 2, 1, i+1))
	}
	return b
}

// but: a board in new memory, with a change.
func but(b api.Board, change func(b *api.Board)) api.Board {
	b.Hosts, b.Slots = slices.Clone(b.Hosts), slices.Clone(b.Slots)
	change(&b)
	return b
}

func sameBoard(a, b api.Board) bool {
	return a.Turn == b.Turn && a.Next == b.Next && slices.Equal(a.Hosts, b.Hosts) && slices.Equal(a.Slots, b.Slots)
}

// told: what a failing test tells of something, but not of all that is long.
func told(thing any) string { return fmt.Sprintf("%.900q", fmt.Sprintf("%+v", thing)) }

func wantFault(t *testing.T, what string, got, want api.Fault) {
	t.Helper()
	if got != want {
		t.Errorf("%s: fault %v, want %v", what, got, want)
	}
}

// wantFine: Check tells nothing.
func wantFine(t *testing.T, what string, l list) {
	t.Helper()
	wantFault(t, "Check of "+what, locate.Check(l), api.Fault{})
}

// wantFineBoard: nothing is wrong with a board that a test is to lean on.
func wantFineBoard(t *testing.T, b api.Board) {
	t.Helper()
	if f := assign.Check(b); f != (api.Fault{}) {
		t.Fatalf("fault %v of %s", f, told(b))
	}
}

// wantKnown: no fault, and just this is known, which is fine.
func wantKnown(t *testing.T, what string, got list, f api.Fault, want list) {
	t.Helper()
	wantFault(t, what, f, api.Fault{})
	if !slices.Equal(got, want) {
		t.Errorf("%s: %s, want %s", what, told(got), told(want))
	}
	wantFine(t, what, got)
}

// wantLook: a row is had by that of a number; or by none, if it is below 0.
func wantLook(t *testing.T, l list, row string, want int) {
	t.Helper()
	n, is, f := locate.Look(l, row)
	wantFault(t, "Look", f, api.Fault{})
	if is != (want >= 0) || n != max(0, want) {
		t.Errorf("Look of %.50q in %s: %d, %t, want %d", row, told(l), n, is, want)
	}
}

// wantLearnt: just this is known behind one that is learnt.
func wantLearnt(t *testing.T, what string, l list, k api.Known, want ...api.Known) {
	t.Helper()
	got, f := locate.Learn(l, k)
	wantKnown(t, "Learn of "+what, got, f, want)
}

// wantNotLearnt: just this fault.
func wantNotLearnt(t *testing.T, what string, l list, k api.Known, want api.Fault) {
	t.Helper()
	got, f := locate.Learn(l, k)
	wantFault(t, "Learn of "+what, f, want)
	if len(got) > 0 {
		t.Errorf("Learn of %s: %s beside a fault", what, told(got))
	}
}

func wantServes(t *testing.T, b api.Board, host, turn int, row string, want bool) {
	t.Helper()
	got, f := locate.Serves(b, host, turn, row)
	wantFault(t, "Serves", f, api.Fault{})
	if got != want {
		t.Errorf("Serves of %d in %d and %.50q: %t, on %s", host, turn, row, got, told(b))
	}
}

// answer: what Find answers beside its fault.
type answer struct {
	known list
	told  api.Known
	asked int
}

func (a answer) is(b answer) bool {
	return slices.Equal(a.known, b.known) && a.told == b.told && a.asked == b.asked
}

func find(b api.Board, l list, row string) (answer, api.Fault) {
	known, k, asked, f := locate.Find(b, l, row)
	return answer{known, k, asked}, f
}

// wantFound: no fault, and just this is told, so often asked, and known then.
func wantFound(t *testing.T, what string, b api.Board, l list, row string, k api.Known, asked int, then ...api.Known) {
	t.Helper()
	got, f := find(b, l, row)
	wantKnown(t, "Find of "+what, got.known, f, then)
	if got.told != k || got.asked != asked {
		t.Errorf("Find of %s: %s, asked %d times, want %s and %d", what, told(got.told), got.asked, told(k), asked)
	}
}

// wantNotOpen: ErrNone at 0, and so often asked, and just this known then.
func wantNotOpen(t *testing.T, what string, b api.Board, l list, row string, asked int, then ...api.Known) {
	t.Helper()
	got, f := find(b, l, row)
	wantFault(t, "Find of "+what, f, fault(api.ErrNone, 0))
	if want := (answer{then, api.Known{}, asked}); !got.is(want) {
		t.Errorf("Find of %s: %s, want %s", what, told(got), told(want))
	}
	wantFine(t, "what is known behind Find of "+what, got.known)
}

// wantNotFound: just this fault.
func wantNotFound(t *testing.T, what string, b api.Board, l list, row string, want api.Fault) {
	t.Helper()
	got, f := find(b, l, row)
	wantFault(t, "Find of "+what, f, want)
	if !got.is(answer{}) {
		t.Errorf("Find of %s: %s beside a fault", what, told(got))
	}
}

// outside: numbers that no host and no turn has.
func outside() []int { return []int{0, -1, api.MaxNum, api.MaxNum + 1, math.MinInt, math.MaxInt} }

// someRows: rows that stand close to one another, among them the empty one, and such as are longer than a part's.
func someRows() []string {
	return []string{"", "\x00", "a", "a\x00", "aa", "b", "b\xff", "c", "c\x00", "d", "g\xff", "h", "h\x00", "l\xff", "m", "m\x00", "n", "p", "s\xff", "t", "t\x00", "w\xff", "x", "z", "é", "\xff", "\xff\xff", x(api.MaxKey - 1), x(api.MaxKey), x(api.MaxKey + 1), x(5000)}
}

// number makes numbers below n that look like nothing, the same ones in each run.
type number uint32

func (s *number) below(n int) int {
	*s = *s*1664525 + 1013904223
	return int(*s>>16) % n
}

// of: one of these numbers.
func (s *number) of(l ...int) int { return l[s.below(len(l))] }

// anyOf: one of a list.
func anyOf[T any](s *number, l []T) T { return l[s.below(len(l))] }
