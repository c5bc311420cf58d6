package raft_test

import (
	"slices"
	"testing"

	"tabulary/api"
	"tabulary/entry"
	"tabulary/raft"
)

// checkByHand: what the document says of Check, word by word.
func checkByHand(x api.Node) api.Fault {
	if x.N < 1 || x.N > 7 || x.ID < 0 || x.ID >= x.N {
		return fault(api.ErrRange, -1)
	}
	if x.Term < 0 || x.Term > 1000000000 || x.Vote < 0 || x.Vote > x.N || x.Role < 0 || x.Role > 2 || x.Commit < 0 || x.Commit > len(x.Log) {
		return fault(api.ErrRange, -2)
	}
	if f := entry.Check(x.Log); f.Code != 0 {
		return f
	}
	if lastByHand(x.Log) > x.Term {
		return fault(api.ErrState, -3)
	}
	known := slices.Concat(x.Next, x.Have)
	switch x.Role {
	case 0:
		known = slices.Concat(known, x.Votes)
	case 1:
		unlike := slices.Compact(slices.Sorted(slices.Values(x.Votes)))
		if len(unlike) != len(x.Votes) || !slices.Contains(unlike, x.ID) || 2*len(unlike) > x.N || unlike[0] < 0 || unlike[len(unlike)-1] >= x.N {
			return fault(api.ErrForm, -3)
		}
	case 2:
		if len(x.Next) != x.N || len(x.Have) != x.N || slices.Min(x.Next) < 1 || slices.Max(x.Next) > len(x.Log)+1 || slices.Min(x.Have) < 0 || slices.Max(x.Have) > len(x.Log) {
			return fault(api.ErrForm, -3)
		}
		known = x.Votes
	}
	if len(known) > 0 {
		return fault(api.ErrForm, -3)
	}
	return api.Fault{}
}

// lastByHand: the greatest Term of a log, which its last entry has.
func lastByHand(l log) int {
	last := 0
	for _, e := range l {
		last = max(last, e.Term)
	}
	return last
}

func leadByHand(x *api.Node) {
	x.Role, x.Votes, x.Next, x.Have = 2, nil, nil, nil
	for who := range x.N {
		x.Next = append(x.Next, len(x.Log)+1)
		if who == x.ID {
			x.Have = append(x.Have, len(x.Log))
		} else {
			x.Have = append(x.Have, 0)
		}
	}
	countByHand(x)
}

// countByHand: in order, the number that stands so far behind the first is one that most have.
func countByHand(x *api.Node) {
	most := slices.Sorted(slices.Values(x.Have))[(x.N-1)/2]
	for place := 1; place <= most; place++ {
		if x.Log[place-1].Term == x.Term {
			x.Commit = max(x.Commit, place)
		}
	}
}

func stoodByHand(x api.Node) (api.Node, mails, api.Fault) {
	if f := checkByHand(x); f.Code != 0 {
		return api.Node{}, nil, f
	}
	if x.Role == 2 {
		return api.Node{}, nil, fault(api.ErrState, 0)
	}
	if x.Term == 1000000000 {
		return api.Node{}, nil, fault(api.ErrMuch, 0)
	}
	out := withCommit(candidate(x.N, x.ID, x.Term+1, x.Log), x.Commit)
	if x.N == 1 {
		leadByHand(&out)
	}
	var sent mails
	for to := range x.N {
		if to != x.ID {
			sent = append(sent, asks(x.ID, to, x.Term+1, len(x.Log), lastByHand(x.Log)))
		}
	}
	return out, sent, api.Fault{}
}

func proposedByHand(x api.Node, text string) (api.Node, api.Fault) {
	if f := checkByHand(x); f.Code != 0 {
		return api.Node{}, f
	}
	if x.Role != 2 {
		return api.Node{}, fault(api.ErrState, 0)
	}
	if len(text) > 200 {
		return api.Node{}, fault(api.ErrSize, 0)
	}
	if len(x.Log) >= 100 {
		return api.Node{}, fault(api.ErrMany, 0)
	}
	out := but(x, func(x *api.Node) {
		x.Log = more(x.Log, x.Term, text)
		x.Have[x.ID], x.Next[x.ID] = len(x.Log), len(x.Log)+1
		countByHand(x)
	})
	return out, api.Fault{}
}

func beatByHand(x api.Node) (mails, api.Fault) {
	if f := checkByHand(x); f.Code != 0 {
		return nil, f
	}
	if x.Role != 2 {
		return nil, fault(api.ErrState, 0)
	}
	var sent mails
	for to := range x.N {
		if to == x.ID {
			continue
		}
		m := brings(x.ID, to, x.Term, 0, 0, x.Commit, nil)
		for i, e := range x.Log {
			if place := i + 1; place < x.Next[to] {
				m.A, m.B = place, e.Term
			} else if place < x.Next[to]+5 {
				m.Entries = append(m.Entries, e)
			}
		}
		sent = append(sent, m)
	}
	return sent, api.Fault{}
}

func isMailByHand(x api.Node, m api.Mail) bool {
	for _, n := range []int{m.A, m.B, m.C, m.Term} {
		if n < 0 || n > 1000000000 {
			return false
		}
	}
	for _, e := range m.Entries {
		if e.Term > m.Term {
			return false
		}
	}
	isKind := m.Kind == 1 || m.Kind == 2 || m.Kind == 3 || m.Kind == 4
	isWhom := m.To == x.ID && m.From != x.ID && m.From >= 0 && m.From < x.N
	return isKind && isWhom && m.Term != 0 && len(m.Entries) <= 5 && (m.Kind == 3 || len(m.Entries) == 0) && entry.Check(m.Entries).Code == 0
}

func takenByHand(x api.Node, m api.Mail) (api.Node, mails, api.Fault) {
	if f := checkByHand(x); f.Code != 0 {
		return api.Node{}, nil, f
	}
	if !isMailByHand(x, m) {
		return api.Node{}, nil, fault(api.ErrForm, 0)
	}
	x = but(x, func(*api.Node) {})
	if m.Term > x.Term {
		x = following(x, m.Term)
	}
	var sent mails
	switch m.Kind {
	case 1:
		sent = askedByHand(&x, m)
	case 2:
		sent = votedByHand(&x, m)
	case 3:
		sent = broughtByHand(&x, m)
	case 4:
		saidByHand(&x, m)
	}
	return x, sent, api.Fault{}
}

func askedByHand(x *api.Node, m api.Mail) mails {
	last := lastByHand(x.Log)
	isOlder := m.B < last || m.B == last && m.A < len(x.Log)
	if m.Term != x.Term || x.Vote != 0 && x.Vote-1 != m.From || isOlder {
		return mails{votes(x.ID, m.From, x.Term, false)}
	}
	x.Vote = m.From + 1
	return mails{votes(x.ID, m.From, x.Term, true)}
}

func votedByHand(x *api.Node, m api.Mail) mails {
	if x.Role != 1 || m.Term != x.Term || !m.Ok {
		return nil
	}
	if !slices.Contains(x.Votes, m.From) {
		x.Votes = append(x.Votes, m.From)
	}
	if 2*len(x.Votes) <= x.N {
		return nil
	}
	leadByHand(x)
	sent, _ := beatByHand(*x)
	return sent
}

func broughtByHand(x *api.Node, m api.Mail) mails {
	if m.Term < x.Term {
		return mails{says(x.ID, m.From, x.Term, false, 0)}
	}
	if x.Role == 2 {
		return nil
	}
	x.Role, x.Votes = 0, nil
	out, is, f := entry.Put(x.Log, m.A, m.B, m.Entries)
	if f.Code != 0 {
		return nil
	}
	if !is {
		a := m.A - 1
		if len(x.Log) < a {
			a = len(x.Log)
		}
		if a < 0 {
			a = 0
		}
		return mails{says(x.ID, m.From, x.Term, false, a)}
	}
	for i, e := range m.Entries {
		if place := m.A + 1 + i; place <= x.Commit && x.Log[place-1].Term != e.Term {
			return nil
		}
	}
	x.Log = out
	upTo := m.A + len(m.Entries)
	for place := x.Commit + 1; place <= upTo && place <= m.C; place++ {
		x.Commit = place
	}
	return mails{says(x.ID, m.From, x.Term, true, upTo)}
}

func saidByHand(x *api.Node, m api.Mail) {
	if x.Role != 2 || m.Term != x.Term {
		return
	}
	if m.Ok {
		x.Have[m.From] = max(x.Have[m.From], min(m.A, len(x.Log)))
		x.Next[m.From] = x.Have[m.From] + 1
		countByHand(x)
		return
	}
	next := x.Next[m.From] - 1
	if m.A+1 < next {
		next = m.A + 1
	}
	if next <= x.Have[m.From] {
		next = x.Have[m.From] + 1
	}
	x.Next[m.From] = next
}

func wantTakenByHand(t *testing.T, x api.Node, m api.Mail) (api.Node, api.Fault) {
	t.Helper()
	got, sent, f := raft.Take(x, m)
	want, wanted, g := takenByHand(x, m)
	if f != g || !sameNode(got, want) || !sameMails(sent, wanted) {
		t.Fatalf("Take of %s by %s: %s, %s, %v, want %s, %s, %v", told(m), told(x), told(got), told(sent), f, told(want), told(wanted), g)
	}
	return got, f
}

// wantAllByHand: what all calls but Take answer.
func wantAllByHand(t *testing.T, x api.Node, text string) {
	t.Helper()
	if got, want := raft.Check(x), checkByHand(x); got != want {
		t.Fatalf("Check of %s: %v, want %v", told(x), got, want)
	}
	got, sent, f := raft.Stand(x)
	want, wanted, g := stoodByHand(x)
	if f != g || !sameNode(got, want) || !sameMails(sent, wanted) {
		t.Fatalf("Stand of %s: %s, %s, %v, want %s, %s, %v", told(x), told(got), told(sent), f, told(want), told(wanted), g)
	}
	got, f = raft.Propose(x, text)
	want, g = proposedByHand(x, text)
	if f != g || !sameNode(got, want) {
		t.Fatalf("Propose to %s: %s, %v, want %s, %v", told(x), told(got), f, told(want), g)
	}
	sent, f = raft.Beat(x)
	wanted, g = beatByHand(x)
	if f != g || !sameMails(sent, wanted) {
		t.Fatalf("Beat of %s: %s, %v, want %s, %v", told(x), told(sent), f, told(wanted), g)
	}
	got, f = raft.Restart(x)
	want, g = api.Node{}, checkByHand(x)
	if g.Code == 0 {
		want = api.Node{N: x.N, ID: x.ID, Term: x.Term, Vote: x.Vote, Log: x.Log}
	}
	if f != g || !sameNode(got, want) {
		t.Fatalf("Restart of %s: %s, %v, want %s, %v", told(x), told(got), f, told(want), g)
	}
}
