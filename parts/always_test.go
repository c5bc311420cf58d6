package parts_test

import (
	"fmt"
	"math"
	"slices"
	"testing"

	"tabulary/api"
	"tabulary/parts"
)

// everyCall: what all calls answer.
func everyCall(l list, n int, a, b string) string {
	found, f1 := parts.Find(l, a)
	first, many, f2 := parts.Meet(l, a, b)
	split, f3 := parts.Split(l, n, a, n, 500)
	halves, f4 := parts.Split(l, n, b, 500, 501)
	joined, f5 := parts.Join(l, n, 500)
	others, f6 := parts.Join(l, n, n)
	return fmt.Sprintln(parts.Check(l), found, f1, first, many, f2, split, f3, halves, f4, joined, f5, others, f6)
}

// TestNoCallPanics: parts, rows and numbers of all kinds, and twice the same is answered.
func TestNoCallPanics(t *testing.T) {
	s := number(7)
	inputs := []list{nil, {}, {{}}, four(), most(), cutAt(rising(api.MaxParts)...), make(list, 3), make(list, 200), make(list, 1<<16), {part(x(1<<16), x(1<<16), math.MinInt)}, four()[1:], four()[:3]}
	for n := range 20 {
		l := anyParts(&s, n)
		inputs = append(inputs, l, with(l, s.below(len(l)), part(anyRow(&s), anyRow(&s), s.below(9)-1)))
	}
	rows := someRows()
	for i, l := range inputs {
		for j, n := range []int{math.MinInt, -1, 0, 1, 3, len(l) - 1, len(l), api.MaxNum, math.MaxInt - 1, math.MaxInt} {
			a, b := rows[(i+j)%len(rows)], rows[(i+3*j)%len(rows)]
			if first, then := everyCall(l, n, a, b), everyCall(l, n, a, b); first != then {
				t.Errorf("of %s, %d is answered %s, then %s", told(l), n, first, then)
			}
		}
	}
}

// TestArgumentsStay: nothing that is handed in is written to, nor what lies behind its length; and that is not read.
func TestArgumentsStay(t *testing.T) {
	s := number(8)
	for range 300 {
		l := anyParts(&s, s.below(12))
		// Behind its length stand parts that would go on, have its IDs, and have its rows.
		room := slices.Concat(l, l, list{part("", "", 500), part("", "", 501)})
		before := slices.Clone(room)
		n, a, b := s.below(len(l)+2)-1, anyRow(&s), anyRow(&s)
		full, alone := everyCall(room[:len(l)], n, a, b), everyCall(slices.Clip(slices.Clone(l)), n, a, b)
		if full != alone {
			t.Errorf("with room behind is answered %s, alone %s", full, alone)
		}
		if !slices.Equal(room, before) {
			t.Errorf("of %s, what was handed in is changed", told(l))
		}
	}
}

// changes: what the calls that answer parts answer, of four.
func changes(l list) []list {
	var out []list
	for at, row := range []string{"b", "e", "s", "z"} {
		split, _ := parts.Split(l, at, row, 1, 2)
		out = append(out, split)
	}
	for at := range 3 {
		joined, _ := parts.Join(l, at, 1)
		out = append(out, joined)
	}
	return out
}

// TestAnswersAreNewMemory: a change to an answer, within its length or behind it, changes no argument, and the other way round; nor any other answer.
func TestAnswersAreNewMemory(t *testing.T) {
	l := four()
	answers := changes(l)
	for i := range l {
		l[i] = part("x", "y", 99)
	}
	for i, want := range changes(four()) {
		wantParts(t, "an answer whose argument is changed", answers[i], api.Fault{}, want)
	}
	l = slices.Concat(four(), four())
	answers = changes(l[:4])
	for i, answer := range answers {
		answer = answer[:cap(answer)]
		for j := range answer {
			answer[j] = part("x", "y", 99)
		}
		if !slices.Equal(l, slices.Concat(four(), four())) {
			t.Fatal("the argument changes with an answer")
		}
		for k := i + 1; k < len(answers); k++ {
			wantParts(t, "another answer", answers[k], api.Fault{}, changes(four())[k])
		}
	}
}
