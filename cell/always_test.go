package cell_test

import (
	"fmt"
	"math"
	"slices"
	"testing"

	"tabulary/api"
	"tabulary/cell"
)

// everyCall: what all calls that take cells answer.
func everyCall(l []api.Cell, n int) string {
	sorted, f1 := cell.Sort(l)
	value, is, f2 := cell.Get(l, "r", "c", n)
	scanned, f3 := cell.Scan(l, api.Ask{From: "a", To: "x", Time: n, Many: n})
	b, f4 := cell.Write(l)
	return fmt.Sprintln(cell.Check(l), sorted, f1, value, is, f2, scanned, f3, b, f4)
}

// TestNoCallPanics: cells, numbers and bytes of all kinds, and twice the same is answered.
func TestNoCallPanics(t *testing.T) {
	lists := [][]api.Cell{nil, {}, make([]api.Cell, 1), make([]api.Cell, 3), edges(), someCells(), rising(api.MaxList), rising(api.MaxList + 1)}
	for _, w := range wrongLists() {
		lists = append(lists, w.l)
	}
	for _, l := range lists {
		for _, n := range []int{math.MinInt, -1, 0, 1, 999, api.MaxNum, math.MaxInt} {
			if first, then := everyCall(l, n), everyCall(l, n); first != then {
				t.Errorf("of %v, %d is answered %s, then %s", cut(l), n, first, then)
			}
		}
	}
	s := number(4)
	for n := range 3000 {
		b := make([]byte, n%300)
		for i := range b {
			b[i] = byte(s.below(256) >> (n % 8))
		}
		l, f := cell.Read(b)
		again, g := cell.Read(b)
		if f != g || !slices.Equal(l, again) || f.Code != api.OK && len(l) > 0 {
			t.Errorf("of %v is read %v, %v, then %v, %v", cut(b), l, f, again, g)
		}
	}
}

// TestArgumentsStay: nothing that is handed in is written to, nor what lies behind its length; and that is not read.
func TestArgumentsStay(t *testing.T) {
	s := number(5)
	for _, room := range [][]api.Cell{someCells(), edges(), anyCells(&s, 50), append(rising(3), api.Cell{}, api.Cell{Time: -1})} {
		before := slices.Clone(room)
		for n := range len(room) {
			full := everyCall(room[:n], 4)
			if short := everyCall(slices.Clone(room[:n]), 4); full != short {
				t.Errorf("with %d of %v is answered %s, alone %s", n, cut(room), full, short)
			}
		}
		if !slices.Equal(room, before) {
			t.Errorf("%v is %v then", cut(before), cut(room))
		}
	}
	b := written(t, -1, someCells()...)
	before := slices.Clone(b)
	_, f := cell.Read(b[:len(b)-1])
	wantFault(t, "Read of what lies behind", f, fault(api.ErrForm, len(someCells())-1))
	if !slices.Equal(b, before) {
		t.Errorf("%v is %v then", before, b)
	}
}

// TestAnswersAreNewMemory: a change to an answer, within its length or behind it, changes no argument, and the other way round.
func TestAnswersAreNewMemory(t *testing.T) {
	s := number(6)
	for _, want := range [][]api.Cell{someCells(), rising(1), {put("r", "c", 2, "b"), put("r", "c", 1, "a")}, anyCells(&s, 30)} {
		room := append(slices.Clone(want), put("behind", "", 0, ""))
		l := room[:len(want)]
		sorted, _ := cell.Sort(l)
		scanned, _ := cell.Scan(l, api.Ask{Time: 4, Many: 9})
		keptSorted, keptScanned := slices.Clone(sorted), slices.Clone(scanned)
		for i := range room {
			room[i].Value = "changed"
		}
		wantCells(t, "Sort", sorted, api.Fault{}, keptSorted)
		wantCells(t, "Scan", scanned, api.Fault{}, keptScanned)
		before := slices.Clone(room)
		for _, answer := range [][]api.Cell{sorted[:cap(sorted)], scanned[:cap(scanned)]} {
			for i := range answer {
				answer[i] = api.Cell{}
			}
		}
		wantCells(t, "the argument", room, api.Fault{}, before)
	}
	b := written(t, -1, someCells()...)
	l, f := cell.Read(b)
	for i := range b {
		b[i] = 77
	}
	wantCells(t, "Read", l, f, someCells())
}
