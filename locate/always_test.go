package locate_test

import (
	"fmt"
	"math"
	"slices"
	"testing"

	"tabulary/api"
	"tabulary/assign"
	"tabulary/locate"
)

// given: what all calls are given.
type given struct {
	b          api.Board
	l          list
	k          api.Known
	host, turn int
	row        string
}

// calls: what all calls answer.
func calls(g given) string {
	n, is, f := locate.Look(g.l, g.row)
	learnt, e := locate.Learn(g.l, g.k)
	serves, d := locate.Serves(g.b, g.host, g.turn, g.row)
	found, c := find(g.b, g.l, g.row)
	return fmt.Sprintln(locate.Check(g.l), n, is, f, learnt, e, serves, d, found, c)
}

// numbersOfAllKinds: edges, and far beyond them.
func numbersOfAllKinds() []int {
	return []int{math.MinInt, math.MinInt + 1, -10000, -1, 0, 1, 2, 3, 4, 6, 7, api.MaxNum, api.MaxNum + 1, math.MaxInt - 1, math.MaxInt}
}

// boardsOfAllKinds: right and wrong ones, and such as are far off.
func boardsOfAllKinds() []api.Board {
	out := []api.Board{{}, assign.New(), five(), manySlots(api.MaxParts), manySlots(api.MaxParts + 1), {Slots: make(slots, 1<<16), Next: 2}, {Hosts: make([]api.Host, 5000), Slots: make(slots, 1), Next: 2}}
	for _, b := range wrongBoards() {
		out = append(out, b)
	}
	for i, n := range numbersOfAllKinds() {
		out = append(out, but(five(), func(b *api.Board) { b.Slots[i%5].Host = n }), but(five(), func(b *api.Board) { b.Slots[i%5].State = n }), but(five(), func(b *api.Board) { b.Slots[i%5].Turn = n }))
	}
	return out
}

// listsOfAllKinds: right and wrong ones, and such as are far off.
func listsOfAllKinds() []list {
	long := x(1 << 16)
	out := []list{nil, {{}}, three(), {{}, {}}, many(199), many(200), many(201), make(list, 1<<12), {rows(long, "")}, {rows("", long)}, {rows("m", "a")}, {rows("\xff", "")}, {rows("b", "c"), rows("a", "b")}}
	for _, n := range numbersOfAllKinds() {
		out = append(out, list{known("h", "m", n, n, n), known("m", "", n, n, 3)})
	}
	return out
}

// TestNoCallPanics: boards, lists, rows and numbers of all kinds; and twice the same is answered.
func TestNoCallPanics(t *testing.T) {
	numbers, all := numbersOfAllKinds(), append(someRows(), x(1<<16))
	for i, b := range boardsOfAllKinds() {
		for j, l := range listsOfAllKinds() {
			for n := range 2 {
				k := known(all[(i+j*3+n)%len(all)], all[(i*5+j+n*7)%len(all)], n, n, n)
				g := given{b, l, k, numbers[(i+j+n)%len(numbers)], numbers[(i+n*3)%len(numbers)], all[(i*3+j+n*8)%len(all)]}
				if first, then := calls(g), calls(g); first != then {
					t.Errorf("of %s is answered %.300s, then %.300s", told(g), first, then)
				}
			}
		}
	}
}

// TestNilIsEmpty: a list without elements is the same either way.
func TestNilIsEmpty(t *testing.T) {
	for _, b := range boardsOfAllKinds() {
		for _, row := range []string{"", "d", "k", "z"} {
			g := given{b, nil, rows("a", "b"), 3, 3, row}
			e := given{but(b, func(b *api.Board) {}), list{}, rows("a", "b"), 3, 3, row}
			if len(b.Hosts) == 0 {
				e.b.Hosts = []api.Host{}
			}
			if len(b.Slots) == 0 {
				e.b.Slots = slots{}
			}
			if first, then := calls(g), calls(e); first != then {
				t.Errorf("of nil is answered %s, of an empty list %s", first, then)
			}
		}
	}
}

// anyGiven: what calls may well be given.
func anyGiven(s *number) given {
	b := anyBoard(s)
	l := withTrue(s, anyKnowns(s), b)
	row := anyRow(s)
	slot := slotByHand(b, row)
	return given{b, l, anyKnown(s), s.of(slot.Host, 7), s.of(slot.Turn, 3), row}
}

// roomy: a list with more behind its length.
func roomy[T any](l []T, behind ...T) []T { return slices.Concat(l, behind)[:len(l)] }

// whole: a roomy list, with what lies behind it.
func whole[T any](l []T) []T { return l[:len(l)+2] }

// TestArgumentsStay: nothing that is handed in is written to, nor what lies behind its length; and that is not read.
func TestArgumentsStay(t *testing.T) {
	s := number(7)
	for range 4000 {
		g := anyGiven(&s)
		full := g
		// These would have the row that is asked for.
		full.l = roomy(g.l, known(g.row, "", 1, 7, 3), rows("b", "a"))
		full.b.Hosts = roomy(g.b.Hosts, api.Host{ID: 77, Epoch: 1, Alive: true}, api.Host{})
		full.b.Slots = roomy(g.b.Slots, slotOf(g.row, "", 77, 2, 7, 3), api.Slot{})
		wasHosts, wasSlots, wasList := slices.Clone(whole(full.b.Hosts)), slices.Clone(whole(full.b.Slots)), slices.Clone(whole(full.l))
		if got, want := calls(full), calls(g); got != want {
			t.Fatalf("with room behind is answered %.500s, alone %.500s", got, want)
		}
		if !slices.Equal(whole(full.b.Hosts), wasHosts) || !slices.Equal(whole(full.b.Slots), wasSlots) || !slices.Equal(whole(full.l), wasList) {
			t.Fatalf("%s is changed to %s", told(g), told(full))
		}
	}
}

// fill writes to all memory of a list, also behind its length.
func fill[T any](l []T, with T) {
	l = l[:cap(l)]
	for i := range l {
		l[i] = with
	}
}

// TestAnswersAreNewMemory: a change to an answer, within its list's length or behind it, changes nothing that was handed in, nor another answer; nor the other way round.
func TestAnswersAreNewMemory(t *testing.T) {
	s := number(8)
	ways := map[way]int{}
	for range 4000 {
		g := anyGiven(&s)
		was := given{but(g.b, func(*api.Board) {}), slices.Clone(g.l), g.k, g.host, g.turn, g.row}
		wantLearnt, _ := learnByHand(was.l, was.k)
		wantFound, f := findByHand(was.b, was.l, was.row)
		learnt, _ := locate.Learn(g.l, g.k)
		keptLearnt, _ := locate.Learn(g.l, g.k)
		found, _ := find(g.b, g.l, g.row)
		keptFound, _ := find(g.b, g.l, g.row)
		bad := known("x", "y", 99, 99, 99)
		fill(learnt, bad)
		fill(found.known, bad)
		if !slices.Equal(g.l, was.l) || !sameBoard(g.b, was.b) {
			t.Fatalf("what was handed in changes with an answer: %s, want %s", told(g), told(was))
		}
		fill(g.l, bad)
		fill(g.b.Slots, slotOf("x", "y", 99, 9, 99, 99))
		fill(g.b.Hosts, api.Host{ID: 99})
		if !slices.Equal(keptLearnt, wantLearnt) || !keptFound.is(wantFound) {
			t.Fatalf("an answer changes with another one, or with what was handed in: %s, %s, want %s, %s", told(keptLearnt), told(keptFound), told(wantLearnt), told(wantFound))
		}
		ways[way{f.Code, found.asked, 0}]++
	}
	for _, w := range []way{{0, 1, 0}, {0, 2, 0}, {api.ErrNone, 1, 0}, {api.ErrNone, 2, 0}} {
		if ways[w] < 100 {
			t.Errorf("%v comes %d times alone", w, ways[w])
		}
	}
}
