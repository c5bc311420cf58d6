package lease_test

import (
	"fmt"
	"math"
	"slices"
	"testing"

	"tabulary/api"
	"tabulary/lease"
)

// numbersOfAllKinds: edges, and far beyond them.
func numbersOfAllKinds() []int {
	return []int{math.MinInt, math.MinInt + 1, -1000000, -1, 0, 1, 3, 4, 8, 9, 1000000, 1000001, 900000001, api.MaxNum, api.MaxNum + 1, math.MaxInt - 1, math.MaxInt}
}

// leaseCalls: what all calls but Play and Fair answer.
func leaseCalls(l api.Lease, a, b, c int) string {
	granted, f1 := lease.Grant(l, a, b, c)
	renewed, f2 := lease.Renew(l, l.Holder, l.Epoch, b, c)
	other, f3 := lease.Renew(l, a, b, c, a)
	until, f4 := lease.Trust(a, b)
	seen, f5 := lease.Admit(a, b)
	return fmt.Sprintln(lease.Check(l), granted, f1, renewed, f2, other, f3, until, f4, seen, f5)
}

// TestNoCallPanics: numbers of all kinds, and twice the same is answered.
func TestNoCallPanics(t *testing.T) {
	numbers := numbersOfAllKinds()
	for i, a := range numbers {
		for j, b := range numbers {
			for k, c := range numbers {
				l := leaseOf(numbers[(i+j)%len(numbers)], numbers[(j+k)%len(numbers)], numbers[(i+k)%len(numbers)])
				if first, then := leaseCalls(l, a, b, c), leaseCalls(l, a, b, c); first != then {
					t.Errorf("of %v, %d, %d and %d is answered %s, then %s", l, a, b, c, first, then)
				}
			}
		}
	}
}

// playCalls: what Play and Fair answer.
func playCalls(span, clients int, s script) string {
	c, f1 := lease.Play(span, clients, s)
	is, f2 := lease.Fair(span, clients, s)
	return fmt.Sprintln(c, f1, is, f2)
}

// TestNoScriptPanics: deeds of all kinds, behind none and behind others.
func TestNoScriptPanics(t *testing.T) {
	numbers := numbersOfAllKinds()
	for _, kind := range append(numbers, 2, 5, 6, 7) {
		for _, who := range numbers {
			for _, n := range numbers {
				d := api.Deed{Kind: kind, Who: who, N: n}
				for _, s := range []script{{d}, append(begun(), d, d, d)} {
					if first, then := playCalls(8, 3, s), playCalls(8, 3, s); first != then {
						t.Errorf("of %v is answered %s, then %s", s, first, then)
					}
				}
			}
		}
	}
	for _, span := range numbers {
		for _, clients := range numbers {
			playCalls(span, clients, nil)
			playCalls(span, clients, begun())
			playCalls(span, clients, make(script, 5000))
		}
	}
}

// TestArgumentsStay: nothing that is handed in is written to, nor what lies behind its length; and that is not read.
func TestArgumentsStay(t *testing.T) {
	s := number(7)
	for range 300 {
		l := anyScript(&s, 8, 3, 40)
		room := slices.Concat(l, script{tick(8), {Kind: 9}})
		before := slices.Clone(room)
		full, alone := playCalls(8, 3, room[:len(l)]), playCalls(8, 3, slices.Clip(slices.Clone(l)))
		if full != alone {
			t.Errorf("with room behind is answered %s, alone %s", full, alone)
		}
		if !slices.Equal(room, before) {
			t.Errorf("of %v, what was handed in is changed", l)
		}
	}
}

// spoil writes to all memory of an answer, also behind its lists' lengths.
func spoil(c api.Court) {
	for i := range c.Clocks[:cap(c.Clocks)] {
		c.Clocks[:cap(c.Clocks)][i] = 77
	}
	for i := range c.Trusts[:cap(c.Trusts)] {
		c.Trusts[:cap(c.Trusts)][i] = trust(77, 77)
	}
	for i := range c.Wishes[:cap(c.Wishes)] {
		c.Wishes[:cap(c.Wishes)][i] = wish(77, 77, 77)
	}
	for i := range c.Replies[:cap(c.Replies)] {
		c.Replies[:cap(c.Replies)][i] = reply(77, 77, 77)
	}
}

// TestAnswersAreNewMemory: a change to an answer changes no other one, nor what is answered then, nor the deeds.
func TestAnswersAreNewMemory(t *testing.T) {
	s := begun()
	want := playCalls(8, 3, s)
	other := mustPlay(t, 8, 3, s)
	spoil(mustPlay(t, 8, 3, s))
	if got := playCalls(8, 3, s); got != want {
		t.Errorf("behind a change to an answer is answered %s, want %s", got, want)
	}
	if !slices.Equal(s, begun()) {
		t.Error("the deeds change with an answer")
	}
	for i := range s {
		s[i] = api.Deed{Kind: 9}
	}
	if again := mustPlay(t, 8, 3, begun()); !sameCourt(other, again) {
		t.Errorf("an answer is %v behind changes to another one and to the deeds, want %v", other, again)
	}
}
