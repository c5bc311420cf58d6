package raft_test

import (
	"fmt"
	"math"
	"slices"
	"testing"

	"tabulary/api"
	"tabulary/raft"
)

// everyCall: what all calls answer.
func everyCall(x api.Node, m api.Mail, text string) string {
	stood, asked, f1 := raft.Stand(x)
	proposed, f2 := raft.Propose(x, text)
	beats, f3 := raft.Beat(x)
	taken, sent, f4 := raft.Take(x, m)
	restarted, f5 := raft.Restart(x)
	return fmt.Sprintln(raft.Check(x), stood, asked, f1, proposed, f2, beats, f3, taken, sent, f4, restarted, f5)
}

// nodesOfAllKinds: right and wrong ones.
func nodesOfAllKinds() []api.Node {
	out := rightNodes()
	for _, x := range wrongNodes() {
		out = append(out, x.Node)
	}
	return out
}

// mailsOfAllKinds: right and wrong ones to a node.
func mailsOfAllKinds(to int) mails {
	out := mails{{}, {Kind: math.MaxInt, From: math.MinInt, To: math.MaxInt, Term: math.MinInt, A: math.MinInt, B: math.MaxInt, C: math.MinInt, Entries: make(log, 5000)}}
	for _, n := range append(outside(), 0, 1, 3, 100, 101, api.MaxNum) {
		for kind := range 6 {
			m := api.Mail{Kind: kind, From: (to + 1) % 2, To: to, Term: max(1, min(n, api.MaxNum)), A: n, B: n, C: n, Ok: n > 2}
			out = append(out, m, change(m, func(m *api.Mail) { m.Term, m.A, m.B, m.C = n, 0, 0, 0 }), change(m, func(m *api.Mail) { m.From = n }))
			for _, l := range []log{of(1), many(5, 1), many(6, 1), of(n), of(n, n-1), {{Term: 1, Text: long(9999)}}} {
				out = append(out, change(m, func(m *api.Mail) { m.Entries = l }), change(m, func(m *api.Mail) { m.A, m.B, m.Entries = 0, 0, l }))
			}
		}
	}
	return out
}

// TestNoCallPanics: nodes and mails of all kinds, and twice the same is answered.
func TestNoCallPanics(t *testing.T) {
	for i, x := range nodesOfAllKinds() {
		for j, m := range mailsOfAllKinds(x.ID) {
			if (i+j)%5 > 0 {
				continue
			}
			text := long([]int{0, 1, 200, 201, 10000}[(i+j)/5%5])
			if first, then := everyCall(x, m, text), everyCall(x, m, text); first != then {
				t.Errorf("of %s and %s is answered %.300s, then %.300s", told(x), told(m), first, then)
			}
		}
	}
}

// TestNilIsEmpty: a list without elements is the same either way.
func TestNilIsEmpty(t *testing.T) {
	for _, x := range nodesOfAllKinds() {
		empty, none := x, x
		if len(x.Log) == 0 {
			empty.Log, none.Log = log{}, nil
		}
		for _, l := range [][2]*[]int{{&empty.Votes, &none.Votes}, {&empty.Next, &none.Next}, {&empty.Have, &none.Have}} {
			if len(*l[0]) == 0 {
				*l[0], *l[1] = []int{}, nil
			}
		}
		for kind := 1; kind <= 4; kind++ {
			m := api.Mail{Kind: kind, From: (x.ID + 1) % 2, To: x.ID, Term: max(1, x.Term), Ok: true}
			with := change(m, func(m *api.Mail) { m.Entries = log{} })
			if first, then := everyCall(empty, with, "a"), everyCall(none, m, "a"); first != then {
				t.Errorf("of %s is answered %s, and %s", told(x), first, then)
			}
		}
	}
}

// Lists in memory that goes on behind their length, with such as would go on, too, and such as are wrong.

func roomy[T any](l []T, behind ...T) []T { return slices.Concat(l, behind)[:len(l)] }

func roomyLog(l log) log { return roomy(l, api.Entry{Term: 9, Text: "z"}, api.Entry{Term: -1}) }

func roomyNode(x api.Node) api.Node {
	x.Log, x.Votes, x.Next, x.Have = roomyLog(x.Log), roomy(x.Votes, 0, 99), roomy(x.Next, 1, 99), roomy(x.Have, 0, 99)
	return x
}

// allOf: a list, and what lies behind it.
func allOf[T any](l []T) []T { return l[:len(l)+2] }

// wholeOf: a roomy node, with what lies behind its lists.
func wholeOf(x api.Node) api.Node {
	x.Log, x.Votes, x.Next, x.Have = allOf(x.Log), allOf(x.Votes), allOf(x.Next), allOf(x.Have)
	return x
}

// TestArgumentsStay: nothing that is handed in is written to, nor what lies behind its length; and that is not read.
func TestArgumentsStay(t *testing.T) {
	s := number(7)
	for range 20000 {
		x := anyNode(&s)
		m := anyMail(&s, x)
		full, mail := roomyNode(x), m
		mail.Entries = roomyLog(m.Entries)
		alone := but(x, func(x *api.Node) {
			x.Log, x.Votes, x.Next, x.Have = slices.Clip(x.Log), slices.Clip(x.Votes), slices.Clip(x.Next), slices.Clip(x.Have)
		})
		if got, want := everyCall(full, mail, "a"), everyCall(alone, m, "a"); got != want {
			t.Fatalf("with room behind is answered %s, alone %s", got, want)
		}
		if !sameNode(wholeOf(full), wholeOf(roomyNode(x))) || !slices.Equal(allOf(mail.Entries), allOf(roomyLog(m.Entries))) {
			t.Fatalf("%s or %s is changed to %s or %s", told(x), told(m), told(wholeOf(full)), told(allOf(mail.Entries)))
		}
	}
}

// answer is all that a call answers.
type answer struct {
	api.Node
	sent mails
}

func answersOf(x api.Node, m api.Mail) []answer {
	var out []answer
	put := func(x api.Node, sent mails, _ api.Fault) { out = append(out, answer{x, sent}) }
	put(raft.Stand(x))
	put(raft.Take(x, m))
	proposed, f := raft.Propose(x, "a")
	put(proposed, nil, f)
	restarted, f := raft.Restart(x)
	put(restarted, nil, f)
	beats, f := raft.Beat(x)
	put(api.Node{}, beats, f)
	return out
}

// fill writes to all memory of a list, also behind its length.
func fill[T any](l []T, with T) {
	l = l[:cap(l)]
	for i := range l {
		l[i] = with
	}
}

// isFull tells whether all memory of a list is what it was filled with.
func isFull[T comparable](l []T, with T) bool {
	return !slices.ContainsFunc(l[:cap(l)], func(x T) bool { return x != with })
}

// wantApart: no two lists of an answer share memory.
func wantApart(t *testing.T, a answer) {
	t.Helper()
	logs, numbers := []log{a.Log}, [][]int{a.Votes, a.Next, a.Have}
	for _, m := range a.sent {
		logs = append(logs, m.Entries)
	}
	for i, l := range logs {
		fill(l, api.Entry{Term: i})
	}
	for i, l := range numbers {
		fill(l, i)
	}
	for i, l := range logs {
		if !isFull(l, api.Entry{Term: i}) {
			t.Fatalf("the entries %d of an answer share memory with others", i)
		}
	}
	for i, l := range numbers {
		if !isFull(l, i) {
			t.Fatalf("the numbers %d of an answer share memory with others", i)
		}
	}
	fill(a.sent, api.Mail{})
}

// TestAnswersAreNewMemory: no two lists of one share any, nor any with what was handed in, nor with another answer.
func TestAnswersAreNewMemory(t *testing.T) {
	s := number(9)
	for range 5000 {
		x := anyNode(&s)
		m := anyMail(&s, x)
		was, mail := but(x, func(*api.Node) {}), change(m, func(m *api.Mail) { m.Entries = slices.Clone(m.Entries) })
		want := fmt.Sprint(answersOf(x, m))
		changed, kept := answersOf(x, m), answersOf(x, m)
		for _, a := range changed {
			wantApart(t, a)
		}
		if !sameNode(x, was) || !sameMail(m, mail) {
			t.Fatalf("what was handed in changes with an answer: %s, %s", told(x), told(m))
		}
		fill(x.Log, api.Entry{})
		fill(m.Entries, api.Entry{})
		for _, l := range [][]int{x.Votes, x.Next, x.Have} {
			fill(l, -1)
		}
		if got := fmt.Sprint(kept); got != want {
			t.Fatalf("an answer changes with another one, or with what was handed in: %s, want %s", got, want)
		}
	}
}
