package raft_test

import (
	"slices"
	"strings"
	"testing"

	"tabulary/api"
	"tabulary/raft"
)

// more: entries, and one of a Term with a text behind them.
func more(l log, term int, text string) log { return inTurn(l, log{{Term: term, Text: text}}) }

func TestPropose(t *testing.T) {
	l := of(1, 2)
	wantProposed(t, "one of three", leader(3, 1, 2, nil), "a", knowing(leader(3, 1, 2, more(nil, 2, "a")), 0, 1, 0))
	wantProposed(t, "one of three with entries", knowing(leader(3, 1, 2, l), 1, 2, 0), "a", knowing(leader(3, 1, 2, more(l, 2, "a")), 1, 3, 0))
	wantProposed(t, "one in a later Term", knowing(leader(3, 1, 7, l), 1, 2, 0), "a", knowing(leader(3, 1, 7, more(l, 7, "a")), 1, 3, 0))
	wantProposed(t, "the last of seven", knowing(leader(7, 6, 2, l), 0, 1, 2, 0, 1, 2, 2), "a", knowing(leader(7, 6, 2, more(l, 2, "a")), 0, 1, 2, 0, 1, 2, 3))
	for _, text := range []string{"", "a", "\x00\xff\n", "e1", long(api.MaxValue), strings.Repeat("é", api.MaxValue/2)} {
		wantProposed(t, "one of two", leader(2, 0, 2, nil), text, knowing(leader(2, 0, 2, more(nil, 2, text)), 1, 0))
	}
	wantProposed(t, "one of MaxRecs less 1 entries", knowing(leader(2, 0, 2, many(99, 2)), 99, 0), "e100", knowing(leader(2, 0, 2, many(100, 2)), 100, 0))
}

// TestProposeLeavesWhatOthersHave: what comes next for them, too, wherever that is; of itself both are set anew, whatever they were.
func TestProposeLeavesWhatOthersHave(t *testing.T) {
	x := leader(3, 1, 2, of(1, 2))
	x.Next, x.Have = []int{2, 1, 3}, []int{0, 0, 1}
	want := leader(3, 1, 2, more(of(1, 2), 2, "a"))
	want.Next, want.Have = []int{2, 4, 3}, []int{0, 3, 1}
	wantProposed(t, "one that knows less than it could", x, "a", want)
}

// TestProposeAlone: what is proposed to one node is for good, with all ahead of it.
func TestProposeAlone(t *testing.T) {
	wantProposed(t, "one alone", leader(1, 0, 1, nil), "a", withCommit(knowing(leader(1, 0, 1, more(nil, 1, "a")), 1), 1))
	wantProposed(t, "one alone with entries of older Terms", leader(1, 0, 4, of(1, 3)), "a", withCommit(knowing(leader(1, 0, 4, more(of(1, 3), 4, "a")), 3), 3))
	full := many(api.MaxRecs, 1)
	wantProposed(t, "one alone, as the last one", withCommit(leader(1, 0, 1, full[:99]), 99), full[99].Text, withCommit(knowing(leader(1, 0, 1, full), 100), 100))
}

// TestProposeCounts: also what others have of its Term already.
func TestProposeCounts(t *testing.T) {
	l := of(1, 2, 2)
	wantProposed(t, "one whose entries another one has", knowing(leader(3, 0, 2, l), 3, 2, 0), "a", withCommit(knowing(leader(3, 0, 2, more(l, 2, "a")), 4, 2, 0), 2))
	wantProposed(t, "one whose entry of an older Term another one has", knowing(leader(3, 0, 2, l), 3, 1, 0), "a", knowing(leader(3, 0, 2, more(l, 2, "a")), 4, 1, 0))
	wantProposed(t, "one that did not know that it has them itself", knowing(leader(3, 0, 2, l), 0, 3, 0), "a", withCommit(knowing(leader(3, 0, 2, more(l, 2, "a")), 4, 3, 0), 3))
}

// TestProposeInTheTerm0: no node comes to lead there, but Check has nothing against one that does; its entry is of its Term, as the document says, though no log has such.
func TestProposeInTheTerm0(t *testing.T) {
	got, f := raft.Propose(leader(1, 0, 0, nil), "a")
	wantFault(t, "Propose in the Term 0", f, api.Fault{})
	if want := withCommit(knowing(leader(1, 0, 0, more(nil, 0, "a")), 1), 1); !sameNode(got, want) {
		t.Errorf("Propose in the Term 0: %s, want %s", told(got), told(want))
	}
	wantFault(t, "Check behind Propose in the Term 0", raft.Check(got), fault(api.ErrRange, 0))
}

func TestProposeToOneThatDoesNotLead(t *testing.T) {
	full := many(api.MaxRecs, 1)
	for _, x := range []api.Node{follower(1, 0, 0, nil), follower(3, 1, 2, of(1)), candidate(3, 1, 2, of(1)), follower(3, 1, 2, full), candidate(3, 1, 2, full)} {
		for _, text := range []string{"", "a", long(api.MaxValue), long(api.MaxValue + 1)} {
			wantNotProposed(t, "one that does not lead", x, text, fault(api.ErrState, 0))
		}
	}
}

func TestProposeOfWhatIsTooLong(t *testing.T) {
	for _, x := range []api.Node{leader(1, 0, 1, nil), leader(3, 1, 2, of(1)), leader(3, 1, 2, many(api.MaxRecs, 1))} {
		for _, text := range []string{long(api.MaxValue + 1), long(100000), strings.Repeat("é", api.MaxValue/2) + "e"} {
			wantNotProposed(t, "one that leads", x, text, fault(api.ErrSize, 0))
		}
	}
}

func TestProposeToOneOfMaxRecs(t *testing.T) {
	for _, x := range []api.Node{leader(1, 0, 1, many(api.MaxRecs, 1)), leader(3, 1, 2, many(api.MaxRecs, 1))} {
		for _, text := range []string{"", "a", long(api.MaxValue)} {
			wantNotProposed(t, "one of MaxRecs entries", x, text, fault(api.ErrMany, 0))
		}
	}
}

func TestBeat(t *testing.T) {
	wantBeat(t, "one alone", leader(1, 0, 1, of(1)))
	wantBeat(t, "one of nothing", leader(3, 1, 1, nil), brings(1, 0, 1, 0, 0, 0, nil), brings(1, 2, 1, 0, 0, 0, nil))
	wantBeat(t, "one that has just come to lead", leader(3, 1, 4, of(1, 2)), brings(1, 0, 4, 2, 2, 0, nil), brings(1, 2, 4, 2, 2, 0, nil))
	l := of(1, 1, 2, 3)
	wantBeat(t, "one whose others have something", withCommit(knowing(leader(3, 1, 4, l), 1, 4, 3), 2), brings(1, 0, 4, 1, 1, 2, l[1:]), brings(1, 2, 4, 3, 2, 2, l[3:]))
	wantBeat(t, "one whose others have nothing", knowing(leader(3, 0, 4, l), 4, 0, 0), brings(0, 1, 4, 0, 0, 0, l), brings(0, 2, 4, 0, 0, 0, l))
	// What comes next counts, not how many they have.
	x := leader(3, 0, 4, l)
	x.Next, x.Have = []int{1, 2, 5}, []int{0, 4, 0}
	wantBeat(t, "one whose Next is not behind its Have", withCommit(x, 4), brings(0, 1, 4, 1, 1, 4, l[1:]), brings(0, 2, 4, 4, 3, 4, nil))
}

// TestBeatOfMany: at most 5 entries, from each place on.
func TestBeatOfMany(t *testing.T) {
	for _, n := range []int{0, 1, 4, 5, 6, 7, 11, api.MaxRecs} {
		l := many(n, 1)
		for i := range l {
			l[i].Term = 1 + i/2
		}
		for next := 1; next <= n+1; next++ {
			x := leader(2, 1, 200, l)
			x.Next[0] = next
			last := 0
			if next > 1 {
				last = l[next-2].Term
			}
			behind := l[next-1:]
			wantBeat(t, "one of many entries", x, brings(1, 0, 200, next-1, last, 0, behind[:min(5, len(behind))]))
		}
	}
}

// TestBeatToEachOtherOne: in the order of whom the mails go to, to each one what comes next for it.
func TestBeatToEachOtherOne(t *testing.T) {
	l := of(1, 2, 3, 4, 5, 6, 7, 8, 9)
	for n := 1; n <= api.MaxNodes; n++ {
		for id := range n {
			x, want := withCommit(leader(n, id, 9, l), id), mails(nil)
			for to := range n {
				x.Next[to] = to + 1
				if to != id {
					want = append(want, brings(id, to, 9, to, to, id, l[to:min(to+5, 9)]))
				}
			}
			wantBeat(t, "one of many", x, want...)
		}
	}
}

func TestBeatOfOneThatDoesNotLead(t *testing.T) {
	for _, x := range []api.Node{follower(1, 0, 0, nil), follower(3, 1, 2, of(1)), candidate(3, 1, 2, of(1)), candidate(5, 1, 2, nil, 2)} {
		wantNoBeat(t, "one that does not lead", x, fault(api.ErrState, 0))
	}
}

// TestBeatInTheLastTerm: of the longest entries there may be.
func TestBeatInTheLastTerm(t *testing.T) {
	l := slices.Repeat(log{{Term: api.MaxNum, Text: long(api.MaxValue)}}, api.MaxRecs)
	wantBeat(t, "one in the last Term", withCommit(knowing(leader(2, 0, api.MaxNum, l), 100, 95), 100), brings(0, 1, api.MaxNum, 95, api.MaxNum, 100, l[95:]))
}
