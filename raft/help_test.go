package raft_test

import (
	"fmt"
	"math"
	"slices"
	"strconv"
	"strings"
	"testing"

	"tabulary/api"
	"tabulary/raft"
)

type log = []api.Entry

type mails = []api.Mail

func fault(code, at int) api.Fault { return api.Fault{Code: code, At: at} }

// of: entries of these Terms, whose Texts tell their places.
func of(terms ...int) log { return ofWhom("e", terms...) }

func ofWhom(whose string, terms ...int) log {
	out := make(log, len(terms))
	for i, term := range terms {
		out[i] = api.Entry{Term: term, Text: whose + strconv.Itoa(i+1)}
	}
	return out
}

// many: n entries of one Term.
func many(n, term int) log { return of(slices.Repeat([]int{term}, n)...) }

func inTurn(all ...log) log { return slices.Concat(all...) }

// long: a text of n bytes.
func long(n int) string { return strings.Repeat("x", n) }

// outside: numbers that are not from 0 to MaxNum.
func outside() []int { return []int{-1, api.MaxNum + 1, -api.MaxNum, math.MinInt, math.MaxInt} }

// Nodes, by what they do.

func follower(n, id, term int, l log) api.Node {
	return api.Node{N: n, ID: id, Term: term, Log: l}
}

// candidate: one that stands, with its own vote ahead of others.
func candidate(n, id, term int, l log, votes ...int) api.Node {
	return api.Node{N: n, ID: id, Term: term, Vote: id + 1, Log: l, Role: 1, Votes: slices.Concat([]int{id}, votes)}
}

// leader: one that has just come to lead.
func leader(n, id, term int, l log) api.Node {
	have := make([]int, n)
	have[id] = len(l)
	return api.Node{N: n, ID: id, Term: term, Vote: id + 1, Log: l, Role: 2, Next: slices.Repeat([]int{len(l) + 1}, n), Have: have}
}

// knowing: one that leads, and knows how many entries each node has, each of which gets the one behind them next.
func knowing(x api.Node, have ...int) api.Node {
	x.Have, x.Next = have, make([]int, len(have))
	for i, n := range have {
		x.Next[i] = n + 1
	}
	return x
}

// but: the node in memory of its own, changed.
func but(x api.Node, change func(x *api.Node)) api.Node {
	x.Log, x.Votes, x.Next, x.Have = slices.Clone(x.Log), slices.Clone(x.Votes), slices.Clone(x.Next), slices.Clone(x.Have)
	change(&x)
	return x
}

func withCommit(x api.Node, n int) api.Node { return but(x, func(x *api.Node) { x.Commit = n }) }

func withVote(x api.Node, vote int) api.Node { return but(x, func(x *api.Node) { x.Vote = vote }) }

// following: the node in a Term, with nobody to whom it gave its vote there, and as one that follows.
func following(x api.Node, term int) api.Node {
	return but(x, func(x *api.Node) {
		x.Term, x.Vote, x.Role, x.Votes, x.Next, x.Have = term, 0, 0, nil, nil, nil
	})
}

// Mails, by their Kinds.

func asks(from, to, term, many, last int) api.Mail {
	return api.Mail{Kind: 1, From: from, To: to, Term: term, A: many, B: last}
}

func votes(from, to, term int, ok bool) api.Mail {
	return api.Mail{Kind: 2, From: from, To: to, Term: term, Ok: ok}
}

func brings(from, to, term, behind, last, commit int, l log) api.Mail {
	return api.Mail{Kind: 3, From: from, To: to, Term: term, A: behind, B: last, C: commit, Entries: l}
}

func says(from, to, term int, ok bool, a int) api.Mail {
	return api.Mail{Kind: 4, From: from, To: to, Term: term, Ok: ok, A: a}
}

func sameNode(a, b api.Node) bool {
	numbers := func(x api.Node) [6]int { return [6]int{x.N, x.ID, x.Term, x.Vote, x.Role, x.Commit} }
	return numbers(a) == numbers(b) && slices.Equal(a.Log, b.Log) && slices.Equal(a.Votes, b.Votes) && slices.Equal(a.Next, b.Next) && slices.Equal(a.Have, b.Have)
}

func sameMail(a, b api.Mail) bool {
	numbers := func(m api.Mail) [7]int { return [7]int{m.Kind, m.From, m.To, m.Term, m.A, m.B, m.C} }
	return numbers(a) == numbers(b) && a.Ok == b.Ok && slices.Equal(a.Entries, b.Entries)
}

func sameMails(a, b mails) bool { return slices.EqualFunc(a, b, sameMail) }

// told: what a failing test tells of something, but not of all that is long.
func told(thing any) string { return fmt.Sprintf("%.900s", fmt.Sprintf("%+v", thing)) }

func wantFault(t *testing.T, what string, got, want api.Fault) {
	t.Helper()
	if got != want {
		t.Errorf("%s: fault %v, want %v", what, got, want)
	}
}

// wantNode: just this node, of which Check tells nothing.
func wantNode(t *testing.T, what string, got api.Node, f api.Fault, want api.Node) {
	t.Helper()
	wantFault(t, what, f, api.Fault{})
	if !sameNode(got, want) {
		t.Errorf("%s: %s, want %s", what, told(got), told(want))
	}
	wantFault(t, "Check behind "+what, raft.Check(got), api.Fault{})
}

func wantMails(t *testing.T, what string, got, want mails) {
	t.Helper()
	if !sameMails(got, want) {
		t.Errorf("%s: the mails %s, want %s", what, told(got), told(want))
	}
}

// wantNothing: just this fault, and nothing else.
func wantNothing(t *testing.T, what string, got api.Node, sent mails, f, want api.Fault) {
	t.Helper()
	wantFault(t, what, f, want)
	if !sameNode(got, api.Node{}) || len(sent) > 0 {
		t.Errorf("%s: %s and %s beside a fault", what, told(got), told(sent))
	}
}

func wantStand(t *testing.T, what string, x, want api.Node, sent ...api.Mail) {
	t.Helper()
	got, l, f := raft.Stand(x)
	wantNode(t, "Stand of "+what, got, f, want)
	wantMails(t, "Stand of "+what, l, sent)
}

func wantNoStand(t *testing.T, what string, x api.Node, want api.Fault) {
	t.Helper()
	got, l, f := raft.Stand(x)
	wantNothing(t, "Stand of "+what, got, l, f, want)
}

func wantProposed(t *testing.T, what string, x api.Node, text string, want api.Node) {
	t.Helper()
	got, f := raft.Propose(x, text)
	wantNode(t, "Propose to "+what, got, f, want)
}

func wantNotProposed(t *testing.T, what string, x api.Node, text string, want api.Fault) {
	t.Helper()
	got, f := raft.Propose(x, text)
	wantNothing(t, "Propose to "+what, got, nil, f, want)
}

func wantBeat(t *testing.T, what string, x api.Node, want ...api.Mail) {
	t.Helper()
	got, f := raft.Beat(x)
	wantFault(t, "Beat of "+what, f, api.Fault{})
	wantMails(t, "Beat of "+what, got, want)
}

func wantNoBeat(t *testing.T, what string, x api.Node, want api.Fault) {
	t.Helper()
	got, f := raft.Beat(x)
	wantNothing(t, "Beat of "+what, api.Node{}, got, f, want)
}

// wantTaken: a mail leads to just this node, and to these mails.
func wantTaken(t *testing.T, what string, x api.Node, m api.Mail, want api.Node, sent ...api.Mail) {
	t.Helper()
	got, l, f := raft.Take(x, m)
	wantNode(t, "Take of "+what, got, f, want)
	wantMails(t, "Take of "+what, l, sent)
}

func wantNotTaken(t *testing.T, what string, x api.Node, m api.Mail, want api.Fault) {
	t.Helper()
	got, l, f := raft.Take(x, m)
	wantNothing(t, "Take of "+what, got, l, f, want)
}

func wantRestart(t *testing.T, what string, x, want api.Node) {
	t.Helper()
	got, f := raft.Restart(x)
	wantNode(t, "Restart of "+what, got, f, want)
}

// number makes numbers below n that look like nothing, the same ones in each run.
type number uint32

func (s *number) below(n int) int {
	*s = *s*1664525 + 1013904223
	return int(*s>>16) % n
}

// of: one of these.
func (s *number) of(some ...int) int { return some[s.below(len(some))] }
