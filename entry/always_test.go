package entry_test

import (
	"fmt"
	"math"
	"slices"
	"testing"

	"tabulary/api"
	"tabulary/entry"
)

// everyCall: what all calls answer.
func everyCall(l, more log, n, term int) string {
	older, f1 := entry.Older(l, n, term)
	out, is, f2 := entry.Put(l, n, term, more)
	at, f3 := entry.Agree(l, more)
	return fmt.Sprintln(entry.Check(l), older, f1, out, is, f2, at, f3)
}

// logsOfAllKinds: right and wrong ones, and such as are far too long.
func logsOfAllKinds() []log {
	out := rightLogs()
	for i, w := range wrongLogs() {
		if i%3 == 0 {
			out = append(out, w.l)
		}
	}
	return append(out, five(), make(log, 3), make(log, api.MaxRecs), of("l", math.MinInt, math.MaxInt), of("l", math.MaxInt, math.MinInt))
}

// TestNoCallPanics: logs and numbers of all kinds, and twice the same is answered.
func TestNoCallPanics(t *testing.T) {
	numbers := []int{math.MinInt, math.MinInt + 1, -1001, -1, 0, 1, 2, 3, 5, 99, 100, 101, api.MaxNum, api.MaxNum + 1, math.MaxInt - 1, math.MaxInt}
	logs := logsOfAllKinds()
	for i, l := range logs {
		for j, n := range numbers {
			for k, term := range numbers {
				more := logs[(i+3*j+7*k)%len(logs)]
				if first, then := everyCall(l, more, n, term), everyCall(l, more, n, term); first != then {
					t.Errorf("of %s and %s, %d and %d is answered %.200s, then %.200s", told(l), told(more), n, term, first, then)
				}
			}
		}
	}
}

// TestNilIsEmpty: a list without elements is the same either way.
func TestNilIsEmpty(t *testing.T) {
	for _, l := range logsOfAllKinds() {
		for _, at := range []int{-1, 0, 1} {
			for _, two := range [][2]string{
				{everyCall(nil, l, at, at), everyCall(log{}, l, at, at)},
				{everyCall(l, nil, at, at), everyCall(l, log{}, at, at)},
			} {
				if two[0] != two[1] {
					t.Errorf("of nothing and %s is answered %s, and %s", told(l), two[0], two[1])
				}
			}
		}
	}
}

// roomy: entries in memory that goes on behind their length, with such as would go on, too, and such as are wrong.
func roomy(l log) log {
	return inTurn(l, of("behind", 1, 9), log{{Term: -1, Text: long(999)}})[:len(l)]
}

// wantRoom: entries and what lies behind them is as it was.
func wantRoom(t *testing.T, room, want log) {
	t.Helper()
	if all := room[:len(room)+3]; !slices.Equal(all, roomy(want)[:len(want)+3]) {
		t.Fatalf("%s is changed to %s", told(want), told(all))
	}
}

// TestArgumentsStay: nothing that is handed in is written to, nor what lies behind its length; and that is not read.
func TestArgumentsStay(t *testing.T) {
	logs := append(allLogs("l", 3, 3), five(), many("l", api.MaxRecs-1, 1), many("l", api.MaxRecs, 1))
	for _, l := range logs {
		for _, more := range logs {
			for at := range 5 {
				for term := range 4 {
					a, b := roomy(l), roomy(more)
					full, alone := everyCall(a, b, at, term), everyCall(slices.Clip(slices.Clone(l)), slices.Clip(slices.Clone(more)), at, term)
					if full != alone {
						t.Fatalf("with room behind is answered %s, alone %s", full, alone)
					}
					wantRoom(t, a, l)
					wantRoom(t, b, more)
				}
			}
		}
	}
}

// puts: what Put answers of two logs, in each of its ways; ours is five, and theirs has the Term 6 twice.
func puts(ours, theirs log) []log {
	put := func(l log, at, term int, more log) log {
		out, _, _ := entry.Put(l, at, term, more)
		return out
	}
	return []log{
		put(ours, 5, 5, theirs), put(ours, 4, 3, theirs), put(ours, 0, 0, theirs), put(ours, 0, 0, nil), put(ours, 2, 2, theirs), put(ours, 9, 2, theirs),
		put(nil, 0, 0, theirs), put(theirs, 0, 0, theirs), put(ours, 0, 0, ours), put(ours, 3, 3, ours[3:]), put(ours, 0, 0, ours[:2]),
	}
}

// fill writes to all memory of a list, also behind its length.
func fill(l log) {
	l = l[:cap(l)]
	for i := range l {
		l[i] = api.Entry{Term: 77, Text: "changed"}
	}
}

// TestAnswersAreNewMemory: a change to an answer, within its length or behind it, changes nothing that was handed in, and the other way round; nor any other answer.
func TestAnswersAreNewMemory(t *testing.T) {
	ours, theirs := roomy(five()), roomy(of("m", 6, 6))
	want := puts(five(), of("m", 6, 6))
	answers := puts(ours, theirs)
	for i, answer := range answers {
		if len(answer) == 0 || !slices.Equal(answer, want[i]) {
			t.Fatalf("the answer %d is %s, want %s", i, told(answer), told(want[i]))
		}
		fill(answer)
		wantRoom(t, ours, five())
		wantRoom(t, theirs, of("m", 6, 6))
	}
	answers = puts(ours, theirs)
	fill(ours)
	fill(theirs)
	for i, answer := range answers {
		if !slices.Equal(answer, want[i]) {
			t.Errorf("the answer %d changes with something else: %s, want %s", i, told(answer), told(want[i]))
		}
	}
}
