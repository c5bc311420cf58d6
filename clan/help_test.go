package clan_test

import (
	"fmt"
	"math"
	"slices"
	"strconv"
	"strings"
	"testing"

	"tabulary/api"
	"tabulary/clan"
	"tabulary/raft"
)

type script = []api.Deed

type mails = []api.Mail

type log = []api.Entry

func fault(code, at int) api.Fault { return api.Fault{Code: code, At: at} }

// Deeds, by their Kinds.

func stand(who int) api.Deed { return api.Deed{Kind: 0, Who: who} }

func propose(who int) api.Deed { return api.Deed{Kind: 1, Who: who} }

func beat(who int) api.Deed { return api.Deed{Kind: 2, Who: who} }

func take(n int) api.Deed { return api.Deed{Kind: 3, N: n} }

func double(n int) api.Deed { return api.Deed{Kind: 4, N: n} }

func lose(n int) api.Deed { return api.Deed{Kind: 5, N: n} }

func restart(who int) api.Deed { return api.Deed{Kind: 6, Who: who} }

func times(n int, d api.Deed) script { return slices.Repeat(script{d}, n) }

func inTurn(all ...script) script { return slices.Concat(all...) }

// texts: n of them, none like another one.
func texts(n int) []string {
	var out []string
	for i := range n {
		out = append(out, "t"+strconv.Itoa(i))
	}
	return out
}

// long: a text of n bytes.
func long(n int) string { return strings.Repeat("x", n) }

// far: numbers that are neither nodes nor mails.
func far() []int { return []int{-1, -2, 999, -api.MaxNum, math.MinInt, math.MaxInt} }

// of: entries of a Term.
func of(term int, texts ...string) log {
	var out log
	for _, text := range texts {
		out = append(out, api.Entry{Term: term, Text: text})
	}
	return out
}

// Nodes, by what they do.

// fresh: n nodes to which nothing has happened.
func fresh(n int) []api.Node {
	var out []api.Node
	for id := range n {
		out = append(out, api.Node{N: n, ID: id})
	}
	return out
}

func follower(n, id, term, vote int, l log, commit int) api.Node {
	return api.Node{N: n, ID: id, Term: term, Vote: vote, Log: l, Commit: commit}
}

// candidate: one that stands, with its own vote ahead of others.
func candidate(n, id, term int, votes ...int) api.Node {
	return api.Node{N: n, ID: id, Term: term, Vote: id + 1, Role: 1, Votes: slices.Concat([]int{id}, votes)}
}

// leader: one that leads, and knows how many entries each node has, each of which gets the one behind them next.
func leader(id, term int, l log, commit int, have ...int) api.Node {
	next := make([]int, len(have))
	for i, n := range have {
		next[i] = n + 1
	}
	return api.Node{N: len(have), ID: id, Term: term, Vote: id + 1, Log: l, Role: 2, Commit: commit, Next: next, Have: have}
}

// Mails, by their Kinds.

func asks(from, to, term, many, last int) api.Mail {
	return api.Mail{Kind: 1, From: from, To: to, Term: term, A: many, B: last}
}

func votes(from, to, term int, ok bool) api.Mail {
	return api.Mail{Kind: 2, From: from, To: to, Term: term, Ok: ok}
}

func brings(from, to, term, behind, last, commit int, l log) api.Mail {
	return api.Mail{Kind: 3, From: from, To: to, Term: term, A: behind, B: last, C: commit, Entries: l}
}

func says(from, to, term int, ok bool, a int) api.Mail {
	return api.Mail{Kind: 4, From: from, To: to, Term: term, Ok: ok, A: a}
}

func sameNode(a, b api.Node) bool {
	numbers := func(x api.Node) [6]int { return [6]int{x.N, x.ID, x.Term, x.Vote, x.Role, x.Commit} }
	return numbers(a) == numbers(b) && slices.Equal(a.Log, b.Log) && slices.Equal(a.Votes, b.Votes) && slices.Equal(a.Next, b.Next) && slices.Equal(a.Have, b.Have)
}

func sameMail(a, b api.Mail) bool {
	numbers := func(m api.Mail) [7]int { return [7]int{m.Kind, m.From, m.To, m.Term, m.A, m.B, m.C} }
	return numbers(a) == numbers(b) && a.Ok == b.Ok && slices.Equal(a.Entries, b.Entries)
}

func sameClan(a, b api.Clan) bool {
	return slices.EqualFunc(a.Nodes, b.Nodes, sameNode) && slices.EqualFunc(a.Way, b.Way, sameMail)
}

// told: what a failing test tells of something, but not of all that is long.
func told(thing any) string { return fmt.Sprintf("%.900s", fmt.Sprintf("%+v", thing)) }

func wantFault(t *testing.T, what string, got, want api.Fault) {
	t.Helper()
	if got != want {
		t.Errorf("%s: fault %v, want %v", what, got, want)
	}
}

// mustPlay: what deeds lead to, of which there is no fault.
func mustPlay(t *testing.T, n int, texts []string, s script) api.Clan {
	t.Helper()
	c, f := clan.Play(n, texts, s)
	if f != (api.Fault{}) {
		t.Fatalf("Play of %s: fault %v", told(s), f)
	}
	return c
}

// wantClan: deeds lead to just this clan, of whose nodes Check tells nothing.
func wantClan(t *testing.T, what string, n int, texts []string, s script, want api.Clan) {
	t.Helper()
	got := mustPlay(t, n, texts, s)
	if !sameClan(got, want) {
		t.Errorf("%s: %s, want %s", what, told(got), told(want))
	}
	for _, x := range got.Nodes {
		wantFault(t, "Check behind "+what, raft.Check(x), api.Fault{})
	}
}

// wantWay: behind deeds just these mails are on their way.
func wantWay(t *testing.T, what string, n int, texts []string, s script, want ...api.Mail) {
	t.Helper()
	if got := mustPlay(t, n, texts, s); !slices.EqualFunc(got.Way, want, sameMail) {
		t.Errorf("%s: on their way are %s, want %s", what, told(got.Way), told(want))
	}
}

func wantFine(t *testing.T, what string, n int, texts []string, s script) {
	t.Helper()
	_, f := clan.Play(n, texts, s)
	wantFault(t, what, f, api.Fault{})
}

// wantRefused: just this fault, and nothing else.
func wantRefused(t *testing.T, what string, n int, texts []string, s script, want api.Fault) {
	t.Helper()
	c, f := clan.Play(n, texts, s)
	wantFault(t, what, f, want)
	if len(c.Nodes) > 0 || len(c.Way) > 0 {
		t.Errorf("%s: %s beside a fault", what, told(c))
	}
}

func wantGood(t *testing.T, what string, c api.Clan, want ...string) {
	t.Helper()
	got, f := clan.Good(c)
	wantFault(t, "Good of "+what, f, api.Fault{})
	if !slices.Equal(got, want) {
		t.Errorf("Good of %s: %s, want %s", what, told(got), told(want))
	}
}

func wantNotGood(t *testing.T, what string, c api.Clan, want api.Fault) {
	t.Helper()
	got, f := clan.Good(c)
	wantFault(t, "Good of "+what, f, want)
	if len(got) > 0 {
		t.Errorf("Good of %s: %s beside a fault", what, told(got))
	}
}

// number makes numbers below n that look like nothing, the same ones in each run.
type number uint32

func (s *number) below(n int) int {
	*s = *s*1664525 + 1013904223
	return int(*s>>16) % n
}
