package raft_test

import (
	"slices"
	"testing"

	"tabulary/api"
)

// wantPut: entries that are brought lead to this log, of which so many are for good, and to an answer with Ok.
func wantPut(t *testing.T, what string, x api.Node, m api.Mail, l log, commit int) {
	t.Helper()
	want := but(x, func(x *api.Node) { x.Role, x.Votes, x.Log, x.Commit = 0, nil, l, commit })
	wantTaken(t, what, x, m, want, says(x.ID, m.From, x.Term, true, m.A+len(m.Entries)))
}

// wantNotPut: the node follows, stays as it is beside that, and answers without Ok.
func wantNotPut(t *testing.T, what string, x api.Node, m api.Mail, a int) {
	t.Helper()
	want := but(x, func(x *api.Node) { x.Role, x.Votes = 0, nil })
	wantTaken(t, what, x, m, want, says(x.ID, m.From, x.Term, false, a))
}

// wantUnanswered: the node follows, stays as it is beside that, and answers nothing.
func wantUnanswered(t *testing.T, what string, x api.Node, m api.Mail) {
	t.Helper()
	wantTaken(t, what, x, m, but(x, func(x *api.Node) { x.Role, x.Votes = 0, nil }))
}

// theTwo: one that follows and one that stands, the number 1 of three, in the Term 5.
func theTwo(l log, commit int) []api.Node {
	return []api.Node{withVote(withCommit(follower(3, 1, 5, l), commit), 3), withCommit(candidate(3, 1, 5, l), commit)}
}

// five: entries of Terms of which some are alike.
func five() log { return of(1, 1, 3, 3, 5) }

func TestEntriesThatArePut(t *testing.T) {
	for _, x := range theTwo(five(), 0) {
		wantPut(t, "one behind the last one", x, brings(0, 1, 5, 5, 5, 0, ofWhom("m", 5)), inTurn(five(), ofWhom("m", 5)), 0)
		wantPut(t, "five behind the last one", x, brings(0, 1, 5, 5, 5, 0, ofWhom("m", 5, 5, 5, 5, 5)), inTurn(five(), ofWhom("m", 5, 5, 5, 5, 5)), 0)
		wantPut(t, "one in the stead of others", x, brings(0, 1, 5, 2, 1, 0, ofWhom("m", 2)), inTurn(five()[:2], ofWhom("m", 2)), 0)
		wantPut(t, "some in the stead of all", x, brings(0, 1, 5, 0, 0, 0, ofWhom("m", 2, 2)), ofWhom("m", 2, 2), 0)
		wantPut(t, "some of which the first is there", x, brings(0, 1, 5, 3, 3, 0, ofWhom("m", 3, 4)), inTurn(five()[:4], ofWhom("m", 3, 4)[1:]), 0)
		wantPut(t, "some that go beyond the last one", x, brings(0, 1, 5, 4, 3, 0, ofWhom("m", 5, 5)), inTurn(five(), ofWhom("m", 5, 5)[1:]), 0)
	}
	for _, x := range theTwo(nil, 0) {
		wantPut(t, "the first ones", x, brings(2, 1, 5, 0, 0, 0, five()), five(), 0)
		wantPut(t, "none behind 0", x, brings(2, 1, 5, 0, 0, 9, nil), nil, 0)
	}
	wantPut(t, "the last ones of MaxRecs", follower(3, 1, 5, many(95, 2)), brings(0, 1, 5, 95, 2, 0, many(100, 2)[95:]), many(100, 2), 0)
}

// TestEntriesThatAreThereAlready: they stay, and all behind them; so does the log, if none are brought.
func TestEntriesThatAreThereAlready(t *testing.T) {
	terms := []int{0, 1, 1, 3, 3, 5}
	for commit := range 6 {
		for _, x := range theTwo(five(), commit) {
			for at := range 6 {
				for upTo := at; upTo <= 5; upTo++ {
					m := brings(0, 1, 5, at, terms[at], 0, ofWhom("m", terms[at+1:upTo+1]...))
					wantPut(t, "what is there already", x, m, five(), commit)
				}
			}
		}
	}
}

// TestEntriesThatAreForGood: none of them goes, and nothing is answered where one would.
func TestEntriesThatAreForGood(t *testing.T) {
	for commit := range 6 {
		for _, x := range theTwo(five(), commit) {
			for at, last := range []int{0, 1, 1, 3, 3} {
				// At the place behind at stands no entry of the Term 2 or 4.
				m := brings(0, 1, 5, at, last, 5, ofWhom("m", 4))
				if at < commit {
					wantUnanswered(t, "what would take one away that is for good", x, m)
				} else {
					wantPut(t, "what takes one away that is not for good", x, m, inTurn(five()[:at], ofWhom("m", 4)), at+1)
				}
			}
		}
	}
	for _, x := range theTwo(five(), 4) {
		wantUnanswered(t, "what would take one away amid", x, brings(0, 1, 5, 1, 1, 0, ofWhom("m", 1, 3, 4)))
		wantUnanswered(t, "what would take one away, and bring more", x, brings(0, 1, 5, 1, 1, 9, ofWhom("m", 2, 3, 3, 5, 5)))
		wantUnanswered(t, "what would leave fewer than are for good", x, brings(0, 1, 5, 0, 0, 9, ofWhom("m", 2)))
		wantPut(t, "what takes the one behind them", x, brings(0, 1, 5, 1, 1, 0, ofWhom("m", 1, 3, 3, 4)), inTurn(five()[:4], ofWhom("m", 1, 3, 3, 4)[3:]), 4)
	}
}

// TestEntriesThatArePutInNoLog: chapter 11's Put has a fault, and nothing is answered.
func TestEntriesThatArePutInNoLog(t *testing.T) {
	for _, x := range theTwo(five(), 2) {
		wantUnanswered(t, "Terms that would fall", x, brings(0, 1, 5, 5, 5, 5, of(4)))
		wantUnanswered(t, "Terms that would fall amid", x, brings(0, 1, 5, 4, 3, 5, of(1, 5)))
	}
	full := many(api.MaxRecs, 2)
	for n := 96; n <= 100; n++ {
		for _, x := range theTwo(full[:n], 0) {
			fits := many(api.MaxRecs-n, 2)
			wantUnanswered(t, "more than MaxRecs entries", x, brings(0, 1, 5, n, 2, 5, many(api.MaxRecs-n+1, 2)))
			wantPut(t, "just MaxRecs entries", x, brings(0, 1, 5, n, 2, 0, fits), inTurn(full[:n], fits), 0)
		}
	}
}

// TestEntriesBehindNoSuchPlace: the answer tells where to look next, at least 0.
func TestEntriesBehindNoSuchPlace(t *testing.T) {
	for commit := range 6 {
		for _, x := range theTwo(five(), commit) {
			for _, l := range []log{nil, of(5), of(1, 1, 5)} {
				for at, last := range []int{1, 2, 3, 1, 5, 3} {
					wantNotPut(t, "what goes behind another Term", x, brings(0, 1, 5, at, last, 9, l), max(at-1, 0))
				}
				wantNotPut(t, "what goes behind 0 of a later Term", x, brings(0, 1, 5, 0, api.MaxNum, 9, l), 0)
				wantNotPut(t, "what goes behind a place of the Term 0", x, brings(0, 1, 5, 3, 0, 9, l), 2)
				for _, at := range []int{6, 7, 100, api.MaxNum} {
					for _, last := range []int{0, 5, api.MaxNum} {
						wantNotPut(t, "what goes behind no place", x, brings(0, 1, 5, at, last, 9, l), 5)
					}
				}
			}
		}
	}
	for _, x := range theTwo(nil, 0) {
		for _, at := range []int{0, 1, 2, api.MaxNum} {
			wantNotPut(t, "what goes behind no place of nothing", x, brings(0, 1, 5, at, 1, 9, of(5)), 0)
		}
	}
}

// TestEntriesAndWhatIsForGood: up to C, but no further than what was brought, and never back.
func TestEntriesAndWhatIsForGood(t *testing.T) {
	for _, c := range []struct{ was, at, last, many, c, want int }{
		{0, 5, 5, 2, 0, 0}, {0, 5, 5, 2, 1, 1}, {0, 5, 5, 2, 6, 6}, {0, 5, 5, 2, 7, 7}, {0, 5, 5, 2, 8, 7}, {0, 5, 5, 2, api.MaxNum, 7},
		{0, 5, 5, 0, 4, 4}, {0, 5, 5, 0, 5, 5}, {0, 5, 5, 0, 6, 5}, {0, 5, 5, 0, api.MaxNum, 5},
		{3, 5, 5, 2, 0, 3}, {3, 5, 5, 2, 2, 3}, {3, 5, 5, 2, 3, 3}, {3, 5, 5, 2, 4, 4}, {5, 5, 5, 2, 7, 7}, {5, 5, 5, 2, 5, 5},
		{0, 2, 1, 0, 5, 2}, {0, 2, 1, 0, 1, 1}, {2, 2, 1, 0, 5, 2}, {4, 2, 1, 0, 5, 4}, {0, 0, 0, 0, 5, 0}, {1, 0, 0, 0, 5, 1},
	} {
		for _, x := range theTwo(five(), c.was) {
			brought := ofWhom("m", slices.Repeat([]int{5}, c.many)...)
			wantPut(t, "what is for good", x, brings(0, 1, 5, c.at, c.last, c.c, brought), inTurn(five(), brought), c.want)
		}
	}
}

// TestEntriesOfAnOlderTerm: they are refused with the node's own Term, whatever it does.
func TestEntriesOfAnOlderTerm(t *testing.T) {
	for _, x := range someNodes() {
		for _, term := range []int{1, 2, 3} {
			for _, m := range []api.Mail{brings(0, 1, term, 0, 0, 0, nil), brings(0, 1, term, 2, 2, 2, of(1)), brings(0, 1, term, api.MaxNum, 0, 9, nil)} {
				wantTaken(t, "entries of an older Term", x, m, x, says(1, 0, 4, false, 0))
			}
		}
	}
}

// TestEntriesToOneThatLeads: in its own Term there is nobody else who does.
func TestEntriesToOneThatLeads(t *testing.T) {
	x := withCommit(knowing(leader(3, 1, 4, of(1, 2)), 1, 2, 0), 1)
	for _, m := range []api.Mail{brings(0, 1, 4, 0, 0, 0, nil), brings(0, 1, 4, 2, 2, 2, of(4)), brings(0, 1, 4, 9, 9, 9, nil), brings(0, 1, 4, 1, 1, 2, of(4))} {
		wantTaken(t, "entries", x, m, x)
	}
}

// TestEntriesOfALaterTermThatCantBePut: the node goes on to that Term all the same.
func TestEntriesOfALaterTermThatCantBePut(t *testing.T) {
	x := withCommit(knowing(leader(3, 1, 4, of(1, 2)), 1, 2, 0), 1)
	wantTaken(t, "what would take one away that is for good", x, brings(0, 1, 7, 0, 0, 2, of(7)), following(x, 7))
	wantTaken(t, "Terms that would fall", x, brings(0, 1, 7, 2, 2, 2, of(1)), following(x, 7))
}

// TestEntriesLookAtNothingElse: not at Ok, nor at which one brings them.
func TestEntriesLookAtNothingElse(t *testing.T) {
	for _, x := range theTwo(five(), 0) {
		for _, from := range []int{0, 2} {
			m := brings(from, 1, 5, 5, 5, 6, of(5))
			m.Ok = true
			wantPut(t, "entries with Ok", x, m, inTurn(five(), of(5)), 6)
		}
	}
}
