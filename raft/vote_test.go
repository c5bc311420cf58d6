package raft_test

import (
	"testing"

	"tabulary/api"
)

// wantGiven: who asks gets the vote.
func wantGiven(t *testing.T, what string, x api.Node, m api.Mail) {
	t.Helper()
	wantTaken(t, what, x, m, withVote(x, m.From+1), votes(x.ID, m.From, x.Term, true))
}

// wantRefused: who asks does not get it, and the node stays as it is.
func wantRefused(t *testing.T, what string, x api.Node, m api.Mail) {
	t.Helper()
	wantTaken(t, what, x, m, x, votes(x.ID, m.From, x.Term, false))
}

func TestVoteOfOneThatGaveNone(t *testing.T) {
	for _, from := range []int{0, 2} {
		wantGiven(t, "an asking of nobody", follower(3, 1, 4, nil), asks(from, 1, 4, 0, 0))
		wantGiven(t, "an asking", follower(3, 1, 4, of(1, 2)), asks(from, 1, 4, 2, 2))
		wantGiven(t, "an asking in the last Term", follower(3, 1, api.MaxNum, of(1, 2)), asks(from, 1, api.MaxNum, 2, 2))
	}
	for from := range 6 {
		wantGiven(t, "an asking of seven", follower(7, 6, 4, nil), asks(from, 6, 4, 0, 0))
	}
	x := withCommit(follower(3, 1, 4, of(1, 2)), 2)
	wantGiven(t, "an asking of one that knows something to be for good", x, asks(2, 1, 4, 2, 2))
}

// TestVoteOfEachOne: it is given to just one in a Term, and to that one again.
func TestVoteOfEachOne(t *testing.T) {
	for vote := range 6 {
		for from := range 5 {
			if from == 3 {
				continue
			}
			x, m := withVote(follower(5, 3, 4, of(1, 2)), vote), asks(from, 3, 4, 2, 2)
			if vote == 0 || vote == from+1 {
				wantGiven(t, "an asking", x, m)
			} else {
				wantRefused(t, "an asking of one that gave its vote", x, m)
			}
		}
	}
}

// TestVoteInAnOlderTerm: it is refused, also where it was given to that one, and the answer is of the node's Term.
func TestVoteInAnOlderTerm(t *testing.T) {
	for _, x := range someNodes() {
		for vote := range 4 {
			for _, term := range []int{1, 2, 3} {
				wantRefused(t, "an asking of an older Term", withVote(x, vote), asks(2, 1, term, 9, 9))
			}
		}
	}
}

// TestVoteForALog: by the last Term, then by how many entries there are.
func TestVoteForALog(t *testing.T) {
	x := follower(3, 1, 9, of(2, 4, 4))
	for _, c := range []struct {
		many, last int
		want       bool
	}{
		{3, 4, true}, {4, 4, true}, {api.MaxNum, 4, true}, {2, 4, false}, {1, 4, false}, {0, 4, false},
		{3, 5, true}, {1, 5, true}, {0, 5, true}, {1, 9, true}, {0, api.MaxNum, true}, {api.MaxNum, api.MaxNum, true},
		{3, 3, false}, {4, 3, false}, {100, 3, false}, {api.MaxNum, 3, false}, {api.MaxNum, 0, false}, {0, 0, false},
	} {
		m := asks(0, 1, 9, c.many, c.last)
		if c.want {
			wantGiven(t, "an asking with a log that is not older", x, m)
			wantRefused(t, "an asking with a log that is not older, behind another one", withVote(x, 3), m)
		} else {
			wantRefused(t, "an asking with an older log", x, m)
			wantRefused(t, "an asking with an older log, again", withVote(x, 1), m)
		}
	}
	empty := follower(3, 1, 9, nil)
	for _, many := range []int{0, 1, api.MaxNum} {
		for _, last := range []int{0, 1, api.MaxNum} {
			wantGiven(t, "an asking of one without entries", empty, asks(0, 1, 9, many, last))
		}
	}
	full := follower(3, 1, api.MaxNum, many(api.MaxRecs, api.MaxNum))
	wantGiven(t, "an asking with as much as there may be", full, asks(0, 1, api.MaxNum, api.MaxRecs, api.MaxNum))
	wantRefused(t, "an asking with one less", full, asks(0, 1, api.MaxNum, api.MaxRecs-1, api.MaxNum))
}

// TestVoteOfOneThatStandsOrLeads: it has given its own vote to itself; where it has not, it may give it, and does what it did.
func TestVoteOfOneThatStandsOrLeads(t *testing.T) {
	for _, x := range someNodes()[1:] {
		wantRefused(t, "an asking of one that stands or leads", x, asks(0, 1, 4, 9, 9))
		wantGiven(t, "an asking of one that stands or leads, and gave no vote", withVote(x, 0), asks(0, 1, 4, 9, 9))
		wantGiven(t, "an asking of one that stands or leads, again", withVote(x, 1), asks(0, 1, 4, 9, 9))
	}
}

// TestAskingLooksAtNothingElse: neither at C nor at Ok.
func TestAskingLooksAtNothingElse(t *testing.T) {
	m := asks(0, 1, 4, 2, 2)
	m.C, m.Ok = api.MaxNum, true
	wantGiven(t, "an asking with C and Ok", follower(3, 1, 4, of(1, 2)), m)
	m.A = 1
	wantRefused(t, "an asking with C and Ok, with an older log", follower(3, 1, 4, of(1, 2)), m)
}

// wantLeads: with this vote, the node leads, and beats.
func wantLeads(t *testing.T, what string, x api.Node, m api.Mail) {
	t.Helper()
	var beats mails
	last := 0
	for _, e := range x.Log {
		last = e.Term
	}
	for to := range x.N {
		if to != x.ID {
			beats = append(beats, brings(x.ID, to, x.Term, len(x.Log), last, x.Commit, nil))
		}
	}
	want := withVote(withCommit(leader(x.N, x.ID, x.Term, x.Log), x.Commit), x.Vote)
	wantTaken(t, what, x, m, want, beats...)
}

// wantCounted: with this vote, the node has one more, and not most.
func wantCounted(t *testing.T, what string, x api.Node, m api.Mail) {
	t.Helper()
	wantTaken(t, what, x, m, but(x, func(x *api.Node) { x.Votes = append(x.Votes, m.From) }))
}

func TestVotesUpToMost(t *testing.T) {
	wantLeads(t, "the second of two", candidate(2, 0, 4, of(1, 2)), votes(1, 0, 4, true))
	wantLeads(t, "the second of three", candidate(3, 1, 4, of(1, 2)), votes(0, 1, 4, true))
	wantLeads(t, "the second of three, of the last one", candidate(3, 1, 4, of(1, 2)), votes(2, 1, 4, true))
	wantCounted(t, "the second of four", candidate(4, 1, 4, of(1, 2)), votes(0, 1, 4, true))
	wantLeads(t, "the third of four", candidate(4, 1, 4, of(1, 2), 0), votes(3, 1, 4, true))
	wantCounted(t, "the second of five", candidate(5, 1, 4, nil), votes(4, 1, 4, true))
	wantLeads(t, "the third of five", candidate(5, 1, 4, nil, 4), votes(0, 1, 4, true))
	wantCounted(t, "the third of six", candidate(6, 1, 4, nil, 4), votes(0, 1, 4, true))
	wantLeads(t, "the fourth of six", candidate(6, 1, 4, nil, 4, 0), votes(5, 1, 4, true))
	wantCounted(t, "the third of seven", candidate(7, 1, 4, nil, 6), votes(0, 1, 4, true))
	wantLeads(t, "the fourth of seven", candidate(7, 1, 4, nil, 6, 0), votes(3, 1, 4, true))
	first := but(candidate(7, 1, 4, nil), func(x *api.Node) { x.Votes = []int{6, 1} })
	wantCounted(t, "the third of seven, behind its own", first, votes(0, 1, 4, true))
}

// TestVotesOfOneThatKnowsMuch: entries, what is for good, and to whom it gave its vote, stay.
func TestVotesOfOneThatKnowsMuch(t *testing.T) {
	for commit := range 4 {
		wantLeads(t, "a vote for one that knows something to be for good", withCommit(candidate(3, 1, 4, of(1, 2, 2)), commit), votes(0, 1, 4, true))
	}
	wantLeads(t, "a vote for one with entries of its Term", candidate(3, 1, 4, of(1, 4, 4)), votes(0, 1, 4, true))
	wantLeads(t, "a vote for one with MaxRecs entries", candidate(3, 1, 4, many(api.MaxRecs, 3)), votes(0, 1, 4, true))
	wantLeads(t, "a vote for one that gave its own to another one", withVote(candidate(3, 1, 4, of(1, 2)), 3), votes(0, 1, 4, true))
	wantLeads(t, "a vote in the Term 1", candidate(2, 1, 1, nil), votes(0, 1, 1, true))
	wantLeads(t, "a vote in the last Term", candidate(2, 1, api.MaxNum, nil), votes(0, 1, api.MaxNum, true))
}

// TestVotesThatAreThereAlready: one that comes twice counts once.
func TestVotesThatAreThereAlready(t *testing.T) {
	for _, x := range []api.Node{candidate(4, 1, 4, nil, 0), candidate(5, 1, 4, nil, 0), candidate(6, 1, 4, nil, 0, 5), candidate(7, 1, 4, nil, 3, 0)} {
		wantTaken(t, "a vote that is there already", x, votes(0, 1, 4, true), x)
	}
}

// TestVotesThatDoNotCount: not Ok, of another Term, or to one that does not stand.
func TestVotesThatDoNotCount(t *testing.T) {
	for _, x := range someNodes() {
		wantTaken(t, "a vote that was not given", x, votes(0, 1, 4, false), x)
		for _, term := range []int{1, 2, 3} {
			for _, ok := range []bool{false, true} {
				wantTaken(t, "a vote of an older Term", x, votes(0, 1, term, ok), x)
			}
		}
		if x.Role != 1 {
			wantTaken(t, "a vote for one that does not stand", x, votes(0, 1, 4, true), x)
		}
	}
}

// TestVotesLookAtNothingElse: not at A, B and C.
func TestVotesLookAtNothingElse(t *testing.T) {
	m := votes(0, 1, 4, true)
	m.A, m.B, m.C = 1, 2, 3
	wantLeads(t, "a vote with A, B and C", candidate(3, 1, 4, of(1, 2)), m)
}
