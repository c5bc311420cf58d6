package merge_test

import (
	"fmt"
	"math"
	"slices"
	"testing"

	"tabulary/api"
	"tabulary/merge"
)

// everyCall: what all calls answer.
func everyCall(l []list, n int) string {
	all, f1 := merge.Join(l)
	seen, f2 := merge.Scan(l, api.Ask{From: "a", To: "x", Time: n, Many: n})
	part, f3 := merge.Compact(l, n, false)
	whole, f4 := merge.Compact(l, n, true)
	return fmt.Sprintln(all, f1, seen, f2, part, f3, whole, f4)
}

// deepClone: the lists in new memory, without room behind their lengths.
func deepClone(l []list) []list {
	out := make([]list, len(l))
	for i := range l {
		out[i] = slices.Clip(slices.Clone(l[i]))
	}
	return out
}

// TestNoCallPanics: lists and numbers of all kinds, and twice the same is answered.
func TestNoCallPanics(t *testing.T) {
	s := number(6)
	inputs := [][]list{nil, {}, {nil}, someLists(), {make(list, 3)}, make([]list, 20), make([]list, 21), dealt(rising(0, 20000), 20), dealt(rising(0, 1000), 7)}
	for _, w := range wrongLists() {
		inputs = append(inputs, []list{w.l}, []list{rising(0, 3), w.l, nil})
	}
	for n := range 42 {
		inputs = append(inputs, anyLists(&s, n%22))
	}
	for _, l := range inputs {
		for _, n := range []int{math.MinInt, -1, 0, 1, 3, 999, api.MaxNum, math.MaxInt} {
			if first, then := everyCall(l, n), everyCall(l, n); first != then {
				t.Errorf("of %v, %d is answered %s, then %s", cut(l), n, first, then)
			}
		}
	}
}

// TestArgumentsStay: nothing that is handed in is written to, nor what lies behind its length; and that is not read.
func TestArgumentsStay(t *testing.T) {
	s := number(7)
	for n := range 40 {
		room := anyLists(&s, 1+n%20)
		before := deepClone(room)
		short := make([]list, len(room))
		for i := range room {
			short[i] = room[i][:s.below(len(room[i])+1)]
		}
		upTo := s.below(len(short) + 1)
		if full, alone := everyCall(short[:upTo], n%7), everyCall(deepClone(short[:upTo]), n%7); full != alone {
			t.Errorf("with room behind is answered %s, alone %s", full, alone)
		}
		for i := range room {
			wantCells(t, "an argument", room[i], api.Fault{}, before[i])
		}
	}
}

// TestAnswersAreNewMemory: a change to an answer, within its length or behind it, changes no argument, and the other way round.
func TestAnswersAreNewMemory(t *testing.T) {
	one := list{put("r", "c", 2, "b"), put("s", "c", 1, "a")}
	for _, l := range [][]list{{one}, {nil, one}, {one[:1], one[1:]}, someLists(), dealt(rising(0, 1000), 20)} {
		l = deepClone(l)
		all, _ := merge.Join(l)
		seen, _ := merge.Scan(l, api.Ask{Time: 4, Many: api.MaxList})
		part, _ := merge.Compact(l, 4, false)
		whole, _ := merge.Compact(l, 4, true)
		answers := []list{all, seen, part, whole}
		kept := deepClone(answers)
		for i := range l {
			for j := range l[i] {
				l[i][j].Value = "changed"
			}
		}
		before := deepClone(l)
		for i, answer := range answers {
			wantCells(t, "an answer", answer, api.Fault{}, kept[i])
			if len(answer) == 0 {
				t.Error("an answer without cells shows nothing")
			}
			answer = answer[:cap(answer)]
			for j := range answer {
				answer[j] = api.Cell{}
			}
		}
		for i := range l {
			wantCells(t, "an argument", l[i], api.Fault{}, before[i])
		}
	}
}
