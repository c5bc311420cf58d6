package raft_test

import (
	"testing"

	"tabulary/api"
)

func TestStand(t *testing.T) {
	wantStand(t, "the first of three", follower(3, 0, 0, nil), candidate(3, 0, 1, nil), asks(0, 1, 1, 0, 0), asks(0, 2, 1, 0, 0))
	wantStand(t, "the middle one of three", follower(3, 1, 0, nil), candidate(3, 1, 1, nil), asks(1, 0, 1, 0, 0), asks(1, 2, 1, 0, 0))
	wantStand(t, "the last of three", follower(3, 2, 0, nil), candidate(3, 2, 1, nil), asks(2, 0, 1, 0, 0), asks(2, 1, 1, 0, 0))
	wantStand(t, "one of two", follower(2, 1, 6, nil), candidate(2, 1, 7, nil), asks(1, 0, 7, 0, 0))
	wantStand(t, "one with entries", follower(2, 0, 6, of(1, 1, 4)), candidate(2, 0, 7, of(1, 1, 4)), asks(0, 1, 7, 3, 4))
	wantStand(t, "one with an entry of its Term", follower(2, 0, 4, of(4)), candidate(2, 0, 5, of(4)), asks(0, 1, 5, 1, 4))
	wantStand(t, "one with MaxRecs entries", follower(2, 0, 6, many(api.MaxRecs, 5)), candidate(2, 0, 7, many(api.MaxRecs, 5)), asks(0, 1, 7, api.MaxRecs, 5))
	wantStand(t, "one that comes to the last Term", follower(2, 0, api.MaxNum-1, nil), candidate(2, 0, api.MaxNum, nil), asks(0, 1, api.MaxNum, 0, 0))
}

// TestStandAsksEachOtherOne: in the order of whom the mails go to.
func TestStandAsksEachOtherOne(t *testing.T) {
	for n := 2; n <= api.MaxNodes; n++ {
		for id := range n {
			var want mails
			for to := range n {
				if to != id {
					want = append(want, asks(id, to, 4, 2, 3))
				}
			}
			wantStand(t, "one of many", follower(n, id, 3, of(1, 3)), candidate(n, id, 4, of(1, 3)), want...)
		}
	}
}

// TestStandWhateverWas: to whom it gave its vote, and who gave it theirs, does not count in the new Term; what is for good stays so.
func TestStandWhateverWas(t *testing.T) {
	for vote := range 4 {
		wantStand(t, "one that gave its vote", withVote(follower(3, 1, 2, nil), vote), candidate(3, 1, 3, nil), asks(1, 0, 3, 0, 0), asks(1, 2, 3, 0, 0))
		wantStand(t, "one that stands", withVote(candidate(3, 1, 2, nil), vote), candidate(3, 1, 3, nil), asks(1, 0, 3, 0, 0), asks(1, 2, 3, 0, 0))
	}
	was := candidate(4, 1, 2, nil, 3)
	wantStand(t, "one that stands, with another one's vote", was, candidate(4, 1, 3, nil), asks(1, 0, 3, 0, 0), asks(1, 2, 3, 0, 0), asks(1, 3, 3, 0, 0))
	last := but(candidate(5, 1, 2, nil), func(x *api.Node) { x.Votes = []int{4, 1} })
	wantStand(t, "one that stands, with its own vote behind another one's", last, candidate(5, 1, 3, nil), asks(1, 0, 3, 0, 0), asks(1, 2, 3, 0, 0), asks(1, 3, 3, 0, 0), asks(1, 4, 3, 0, 0))
	for commit := range 3 {
		wantStand(t, "one that knows something to be for good", withCommit(follower(2, 0, 2, of(1, 2)), commit), withCommit(candidate(2, 0, 3, of(1, 2)), commit), asks(0, 1, 3, 2, 2))
	}
}

// TestStandAlone: of one node, its own vote is most, and there is nobody to ask; entries of older Terms are not for good by that.
func TestStandAlone(t *testing.T) {
	wantStand(t, "one alone", follower(1, 0, 0, nil), leader(1, 0, 1, nil))
	wantStand(t, "one alone that gave itself its vote", withVote(follower(1, 0, 3, nil), 1), leader(1, 0, 4, nil))
	wantStand(t, "one alone with entries", follower(1, 0, 3, of(1, 3)), leader(1, 0, 4, of(1, 3)))
	wantStand(t, "one alone that knows an entry to be for good", withCommit(follower(1, 0, 3, of(1, 3)), 1), withCommit(leader(1, 0, 4, of(1, 3)), 1))
	wantStand(t, "one alone with MaxRecs entries", follower(1, 0, 3, many(api.MaxRecs, 3)), leader(1, 0, 4, many(api.MaxRecs, 3)))
	wantStand(t, "one alone that comes to the last Term", follower(1, 0, api.MaxNum-1, nil), leader(1, 0, api.MaxNum, nil))
}

func TestStandOfOneThatLeads(t *testing.T) {
	for _, x := range []api.Node{leader(1, 0, 1, nil), leader(3, 1, 1, nil), leader(3, 1, 2, of(1, 2)), leader(1, 0, api.MaxNum, nil), leader(3, 2, api.MaxNum, of(1))} {
		wantNoStand(t, "one that leads", x, fault(api.ErrState, 0))
	}
}

func TestStandInTheLastTerm(t *testing.T) {
	for _, x := range []api.Node{follower(1, 0, api.MaxNum, nil), follower(3, 1, api.MaxNum, of(1)), candidate(3, 1, api.MaxNum, of(api.MaxNum))} {
		wantNoStand(t, "one in the last Term", x, fault(api.ErrMuch, 0))
	}
}

// TestRestart: of each Role, with its Term, its Vote and its Log, and nothing else.
func TestRestart(t *testing.T) {
	for vote := range 4 {
		for commit := range 3 {
			l := of(1, 2)
			want := withVote(follower(3, 1, 2, l), vote)
			for _, x := range []api.Node{follower(3, 1, 2, l), candidate(3, 1, 2, l), leader(3, 1, 2, l), knowing(leader(3, 1, 2, l), 1, 2, 0)} {
				wantRestart(t, "one of a Role", withCommit(withVote(x, vote), commit), want)
			}
		}
	}
	wantRestart(t, "one of nothing", follower(1, 0, 0, nil), follower(1, 0, 0, nil))
	wantRestart(t, "one alone that leads", withCommit(leader(1, 0, 4, of(4)), 1), withVote(follower(1, 0, 4, of(4)), 1))
	wantRestart(t, "one that stands with many votes", candidate(7, 4, 4, nil, 0, 6), withVote(follower(7, 4, 4, nil), 5))
	wantRestart(t, "one with much", withCommit(leader(7, 6, api.MaxNum, many(api.MaxRecs, api.MaxNum)), api.MaxRecs), withVote(follower(7, 6, api.MaxNum, many(api.MaxRecs, api.MaxNum)), 7))
}
