package assign_test

import (
	"fmt"
	"math"
	"slices"
	"testing"

	"tabulary/api"
	"tabulary/assign"
)

// numbersOfAllKinds: edges, and far beyond them.
func numbersOfAllKinds() []int {
	return []int{math.MinInt, math.MinInt + 1, -2000, -1, 0, 1, 2, 3, 4, 5, 6, 7, 8, 9, 11, 12, api.MaxNum - 1, api.MaxNum, api.MaxNum + 1, math.MaxInt - 1, math.MaxInt}
}

// boardsOfAllKinds: right and wrong ones, and such as are far off.
func boardsOfAllKinds() []api.Board {
	out := []api.Board{{}, assign.New(), four(), boardOf(manyHosts(20), manySlots(200)), boardOf(manyHosts(21), manySlots(201)), boardOf(manyHosts(5000), manySlots(1)), {Hosts: make(hosts, 20), Slots: make(slots, 1<<16), Next: 2}}
	for at := range 4 {
		out = append(out, offAt(min(at, 2)), inState(at, 2))
	}
	for i, n := range numbersOfAllKinds() {
		at := i % 4
		out = append(out, but(four(), func(b *api.Board) { b.Turn = n }), but(four(), func(b *api.Board) { b.Next = n }),
			but(four(), func(b *api.Board) { b.Hosts[at%3].ID = n }), but(four(), func(b *api.Board) { b.Hosts[at%3].Epoch = n }),
			withSlot(four(), at, func(s *api.Slot) { s.Part.ID = n }), withSlot(four(), at, func(s *api.Slot) { s.State = n }),
			withSlot(four(), at, func(s *api.Slot) { s.Host = n }), withSlot(four(), at, func(s *api.Slot) { s.Turn = n }),
			withSlot(four(), at, func(s *api.Slot) { s.Part.From = x(max(0, n%50)) }), withSlot(four(), at, func(s *api.Slot) { s.Part.To = x(max(0, n%50)) }),
			api.Board{Hosts: hosts{hostOf(n, n, true)}, Slots: slots{slotOf("", "", n, n, n, n)}, Turn: n, Next: n})
	}
	return out
}

// calls: what all calls answer.
func calls(b api.Board, o api.Order) string {
	then, f := assign.Do(b, o)
	due, g := assign.Due(b)
	return fmt.Sprintln(assign.Check(b), then, f, due, g)
}

// TestNoCallPanics: boards and orders of all kinds, and twice the same is answered.
func TestNoCallPanics(t *testing.T) {
	numbers := numbersOfAllKinds()
	rows := []string{"", "a", "b\xff", "c", "d", x(40), x(41), x(1 << 16), "\x00", "\xff"}
	for i, b := range boardsOfAllKinds() {
		for j, kind := range append(numbers, 10) {
			for k, id := range numbers {
				if len(b.Slots) > 100 && (j+k)%9 > 0 {
					continue
				}
				o := api.Order{Kind: kind, ID: id, Host: numbers[(i+j+k)%len(numbers)], Turn: numbers[(i+3*k)%len(numbers)], Row: rows[(i+j+k)%len(rows)]}
				if first, then := calls(b, o), calls(b, o); first != then {
					t.Errorf("of %s and %v is answered %.300s, then %.300s", told(b), told(o), first, then)
				}
			}
		}
	}
}

// playCalls: what Play answers.
func playCalls(all orders) string {
	b, said, f := assign.Play(all)
	return fmt.Sprintln(b, said, f)
}

// TestNoScriptPanics: orders of all kinds, behind none and behind others.
func TestNoScriptPanics(t *testing.T) {
	numbers := numbersOfAllKinds()
	ahead := orders{comes(7), split(1, "m"), give(2, 7), opened(2, 7, 1)}
	for _, kind := range numbers {
		for _, id := range numbers {
			for i, n := range numbers {
				o := api.Order{Kind: kind, ID: id, Host: n, Turn: numbers[(i+5)%len(numbers)], Row: x(max(0, n%60))}
				for _, all := range []orders{{o}, append(slices.Clip(ahead), o, o)} {
					if first, then := playCalls(all), playCalls(all); first != then {
						t.Errorf("of %v is answered %s, then %s", told(all), first, then)
					}
				}
			}
		}
	}
}

// TestNilIsEmpty: a list without elements is the same either way.
func TestNilIsEmpty(t *testing.T) {
	for _, o := range []api.Order{comes(7), isLost(7), give(1, 7), opened(1, 7, 1), closes(1), closed(1, 7, 1), split(1, "m"), join(1), {}} {
		for _, l := range []slots{manySlots(1), manySlots(2)} {
			if first, then := calls(boardOf(nil, l), o), calls(boardOf(hosts{}, l), o); first != then {
				t.Errorf("of no hosts is answered %s, of an empty list %s", first, then)
			}
		}
		none, empty := api.Board{Hosts: manyHosts(2), Next: 2}, api.Board{Hosts: manyHosts(2), Slots: slots{}, Next: 2}
		if first, then := calls(none, o), calls(empty, o); first != then {
			t.Errorf("of no slots is answered %s, of an empty list %s", first, then)
		}
	}
	if first, then := playCalls(nil), playCalls(orders{}); first != then {
		t.Errorf("of no orders is answered %s, of an empty list %s", first, then)
	}
}

// roomy: a list with more behind its length.
func roomy[T any](l []T, behind ...T) []T { return slices.Concat(l, behind)[:len(l)] }

// whole: a roomy list, with what lies behind it.
func whole[T any](l []T) []T { return l[:len(l)+2] }

// TestArgumentsStay: nothing that is handed in is written to, nor what lies behind its length; and that is not read.
func TestArgumentsStay(t *testing.T) {
	s := number(7)
	for range 5000 {
		b := anyBoard(&s)
		o := anyOrder(&s, b)
		full := b
		// These would be the host that is asked for, and a slot that is due.
		h, slot := hostOf(max(1, o.ID), 1, true), slotOf("", "", max(1, o.ID), 0, 0, 0)
		full.Hosts, full.Slots = roomy(b.Hosts, h, hostOf(0, 0, true)), roomy(b.Slots, slot, slotOf(x(50), "", 0, 4, 0, 0))
		wasHosts, wasSlots := slices.Clone(whole(full.Hosts)), slices.Clone(whole(full.Slots))
		if got, want := calls(full, o), calls(but(b, func(*api.Board) {}), o); got != want {
			t.Fatalf("with room behind is answered %.500s, alone %.500s", got, want)
		}
		if !slices.Equal(whole(full.Hosts), wasHosts) || !slices.Equal(whole(full.Slots), wasSlots) {
			t.Fatalf("by %v, %s is changed to %s", o, told(b), told(full))
		}
	}
}

// TestOrdersStay: the same of Play.
func TestOrdersStay(t *testing.T) {
	s := number(8)
	for range 300 {
		all := newRun(&s).anyOrders(t, s.below(60))
		full := roomy(all, comes(77), api.Order{Kind: 9})
		was := slices.Clone(whole(full))
		if got, want := playCalls(full), playCalls(slices.Clip(all)); got != want {
			t.Fatalf("with room behind is answered %s, alone %s", got, want)
		}
		if !slices.Equal(whole(full), was) {
			t.Fatalf("%v is changed to %v", was, whole(full))
		}
	}
}

// fill writes to all memory of a list, also behind its length.
func fill[T any](l []T, with T) {
	l = l[:cap(l)]
	for i := range l {
		l[i] = with
	}
}

// spoilt fills all lists of a board.
func spoilt(b api.Board) {
	fill(b.Hosts, hostOf(99, 99, true))
	fill(b.Slots, slotOf("x", "y", 99, 9, 99, 99))
}

// TestAnswersAreNewMemory: a change to an answer, within its lists' lengths or behind them, changes nothing that was handed in, nor another answer; nor the other way round.
func TestAnswersAreNewMemory(t *testing.T) {
	s := number(9)
	done := map[int]int{}
	for range 5000 {
		b := anyBoard(&s)
		o := anyOrder(&s, b)
		was := but(b, func(*api.Board) {})
		want, f := doByHand(was, o)
		due := dueByHand(was)
		changed, _ := assign.Do(b, o)
		kept, _ := assign.Do(b, o)
		orders, _ := assign.Due(b)
		keptDue, _ := assign.Due(b)
		spoilt(changed)
		fill(orders, api.Order{Kind: 99})
		if !sameBoard(b, was) {
			t.Fatalf("what was handed in changes with an answer to %v: %s, want %s", o, told(b), told(was))
		}
		spoilt(b)
		if !sameBoard(kept, want) || !slices.Equal(keptDue, due) {
			t.Fatalf("an answer to %v changes with another one, or with what was handed in: %s, %s", o, told(kept), told(keptDue))
		}
		if f == (api.Fault{}) {
			done[o.Kind]++
		}
	}
	for kind := 1; kind <= 8; kind++ {
		if done[kind] < 20 {
			t.Errorf("of the Kind %d, %d orders were done alone", kind, done[kind])
		}
	}
}

// TestPlayedIsNewMemory: the same of Play and New.
func TestPlayedIsNewMemory(t *testing.T) {
	s := number(10)
	for range 300 {
		all := newRun(&s).anyOrders(t, s.below(60))
		was, want := slices.Clone(all), playCalls(all)
		b, said, _ := assign.Play(all)
		kept, keptSaid, f := assign.Play(all)
		spoilt(b)
		fill(said, fault(99, 99))
		spoilt(assign.New())
		if !slices.Equal(all, was) {
			t.Fatal("what was handed in changes with an answer")
		}
		fill(all, api.Order{Kind: 99})
		if got := fmt.Sprintln(kept, keptSaid, f); got != want {
			t.Fatalf("an answer changes with another one, or with what was handed in: %s, want %s", got, want)
		}
		if got := playCalls(was); got != want {
			t.Fatalf("behind a change to an answer is answered %s, want %s", got, want)
		}
	}
}
