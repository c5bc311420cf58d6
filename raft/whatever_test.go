package raft_test

import (
	"slices"
	"testing"

	"tabulary/api"
	"tabulary/raft"
)

// allLogs: every log of at most n entries whose Terms are not above most.
func allLogs(n, most int) []log {
	out := []log{nil}
	for i := 0; i < len(out); i++ {
		for term := max(1, lastByHand(out[i])); term <= most && len(out[i]) < n; term++ {
			out = append(out, more(out[i], term, "l"))
		}
	}
	return out
}

// allTwoOfThree: every node that follows or stands, the number 1 of three, with at most two entries, in a Term of at most 2.
func allTwoOfThree() []api.Node {
	var out []api.Node
	for _, l := range allLogs(2, 2) {
		for term := lastByHand(l); term <= 2; term++ {
			for commit := range len(l) + 1 {
				for vote := range 4 {
					out = append(out, withVote(withCommit(follower(3, 1, term, l), commit), vote), withVote(withCommit(candidate(3, 1, term, l), commit), vote))
				}
			}
		}
	}
	return out
}

// allLists: every list of three numbers from from to to.
func allLists(from, to int) [][]int {
	var out [][]int
	for a := from; a <= to; a++ {
		for b := from; b <= to; b++ {
			for c := from; c <= to; c++ {
				out = append(out, []int{a, b, c})
			}
		}
	}
	return out
}

// allLeaders: every node that leads three and gave itself its vote, the number 1 of them, with at most two entries, in a Term of at most 2.
func allLeaders() []api.Node {
	var out []api.Node
	for _, l := range allLogs(2, 2) {
		for term := lastByHand(l); term <= 2; term++ {
			for commit := range len(l) + 1 {
				for _, next := range allLists(1, len(l)+1) {
					for _, have := range allLists(0, len(l)) {
						x := withCommit(leader(3, 1, term, l), commit)
						x.Next, x.Have = next, have
						out = append(out, x)
					}
				}
			}
		}
	}
	return out
}

// someLeaders: each one of allLeaders that stands so far behind the one ahead.
func someLeaders(step int) []api.Node {
	var out []api.Node
	for i, x := range allLeaders() {
		if i%step == 0 {
			out = append(out, x)
		}
	}
	return out
}

// TestEveryAskingByHand: askings and votes of small numbers, all of them, to all that follow or stand, and to some that lead.
func TestEveryAskingByHand(t *testing.T) {
	for _, x := range slices.Concat(allTwoOfThree(), someLeaders(17)) {
		for _, from := range []int{0, 2} {
			for term := 1; term <= 3; term++ {
				for a := range 4 {
					for b := range 4 {
						wantTakenByHand(t, x, asks(from, 1, term, a, b))
					}
				}
				wantTakenByHand(t, x, votes(from, 1, term, true))
				wantTakenByHand(t, x, votes(from, 1, term, false))
			}
		}
	}
}

// TestEveryBringingByHand: every list of at most two entries, behind every place, of every Term, to all that follow or stand, and to some that lead.
func TestEveryBringingByHand(t *testing.T) {
	logs := allLogs(2, 3)
	for _, x := range slices.Concat(allTwoOfThree(), someLeaders(97)) {
		for term := 1; term <= 3; term++ {
			for a := range 4 {
				for b := range 4 {
					for c := range 4 {
						for _, l := range logs {
							wantTakenByHand(t, x, brings(2*(c%2), 1, term, a, b, c, l))
						}
					}
				}
			}
		}
	}
}

// TestEveryAnswerByHand: answers of small numbers, all of them, to all that lead; and what else these do, and those that follow or stand.
func TestEveryAnswerByHand(t *testing.T) {
	for _, x := range allLeaders() {
		wantAllByHand(t, x, "a")
		for _, from := range []int{0, 2} {
			for term := 1; term <= 3; term++ {
				for a := range 4 {
					wantTakenByHand(t, x, says(from, 1, term, true, a))
					wantTakenByHand(t, x, says(from, 1, term, false, a))
				}
			}
		}
	}
	for _, x := range allTwoOfThree() {
		wantAllByHand(t, x, "a")
	}
}

// anyLog: n entries, whose Terms rise by steps as they come.
func anyLog(s *number, n int) log {
	out := many(n, 1+s.below(3))
	for i := range out {
		if i > 0 {
			out[i].Term = out[i-1].Term + max(0, s.below(8)-5)
		}
	}
	return out
}

// anyNode: one of whatever Role, without a fault.
func anyNode(s *number) api.Node {
	n := 1 + s.below(7)
	l := anyLog(s, s.of(0, 1, 2, 3, 5, 8, s.below(101), 97+s.below(4)))
	x := follower(n, s.below(n), lastByHand(l)+s.of(0, 0, 1, 5), l)
	switch s.below(3) {
	case 1:
		x = candidate(n, x.ID, x.Term, l)
		for who := range n {
			if who != x.ID && 2*len(x.Votes)+2 <= n && s.below(3) > 0 {
				x.Votes = append(x.Votes, who)
			}
		}
		if n == 1 {
			x = following(x, x.Term)
		}
	case 2:
		x = leader(n, x.ID, x.Term, l)
		for who := range n {
			x.Next[who], x.Have[who] = 1+s.below(len(l)+1), len(l)-s.below(min(len(l)+1, 5))
		}
	}
	x.Vote, x.Commit = s.below(n+1), s.below(len(l)+1)
	return x
}

// spoil makes one thing of a node another one, which may be wrong.
func spoil(s *number, x api.Node) api.Node {
	numbers := append(outside(), 0, 1, 2, 3, 7, 8, 100, 101, api.MaxNum)
	n := numbers[s.below(len(numbers))]
	return but(x, func(x *api.Node) {
		ints := []*int{&x.N, &x.ID, &x.Term, &x.Vote, &x.Role, &x.Commit}
		lists := []*[]int{&x.Votes, &x.Next, &x.Have}
		list := lists[s.below(3)]
		switch kind := s.below(11); {
		case kind < 6:
			*ints[kind] = n
		case kind == 6:
			*list = append(*list, n)
		case kind == 7 && len(*list) > 0:
			(*list)[s.below(len(*list))] = n
		case kind == 8 && len(*list) > 0:
			*list = (*list)[1:]
		case kind == 9 && len(x.Log) > 0:
			x.Log[s.below(len(x.Log))] = api.Entry{Term: n, Text: long(s.of(1, 200, 201))}
		default:
			x.Log = append(x.Log, many(s.below(3), 9)...)
		}
	})
}

// anyMail: one that may well mean something to a node.
func anyMail(s *number, x api.Node) api.Mail {
	at := s.below(len(x.Log) + 3)
	m := api.Mail{Kind: 1 + s.below(4), From: s.below(max(1, min(x.N, 7))), To: x.ID, Term: x.Term + s.of(0, 0, 0, 0, 1, 3, -1), A: at, B: s.below(9), C: s.below(len(x.Log) + 7), Ok: s.below(3) > 0}
	if at > 0 && at <= len(x.Log) && s.below(5) > 0 {
		m.B = x.Log[at-1].Term
	}
	if at == 0 && s.below(3) > 0 {
		m.B = 0
	}
	if m.Kind == 3 {
		m.Entries = anyEntries(s, x, m)
	}
	if s.below(12) == 0 {
		spoilMail(s, &m)
	}
	return m
}

// anyEntries: such as a mail may bring a node, of which some are there already.
func anyEntries(s *number, x api.Node, m api.Mail) log {
	var out log
	for i := range s.below(6) {
		e := api.Entry{Term: max(lastByHand(out), m.B, 1), Text: "m"}
		if place := m.A + 1 + i; place <= len(x.Log) {
			e.Term = max(e.Term, x.Log[place-1].Term)
		}
		if s.below(4) == 0 {
			e.Term = min(e.Term+s.below(3), max(m.Term, 1))
		}
		if s.below(30) == 0 {
			e.Term = 1
		}
		out = append(out, e)
	}
	return out
}

func spoilMail(s *number, m *api.Mail) {
	numbers := append(outside(), 0, 1, 2, 5, 7, api.MaxNum)
	n := numbers[s.below(len(numbers))]
	switch kind := s.below(9); kind {
	case 7:
		m.Entries = append(m.Entries, api.Entry{Term: n, Text: long(s.of(1, 200, 201))})
	case 8:
		m.Entries = append(m.Entries, many(s.below(5), m.Term)...)
	default:
		*[]*int{&m.Kind, &m.From, &m.To, &m.Term, &m.A, &m.B, &m.C}[kind] = n
	}
}

// TestWhateverByHand: nodes and mails as they come, of which some are wrong; what comes out of right ones is right.
func TestWhateverByHand(t *testing.T) {
	s := number(3)
	codes := map[int]int{}
	for range 60000 {
		x := anyNode(&s)
		wantFault(t, "Check of a right node", raft.Check(x), api.Fault{})
		for range s.of(0, 0, 0, 0, 1, 2) {
			x = spoil(&s, x)
		}
		wantAllByHand(t, x, long(s.of(0, 1, 5, 200, 201)))
		for range 3 {
			got, f := wantTakenByHand(t, x, anyMail(&s, x))
			codes[f.Code]++
			if f == (api.Fault{}) {
				wantFault(t, "Check behind Take", raft.Check(got), api.Fault{})
			}
		}
	}
	for _, code := range []int{api.OK, api.ErrMany, api.ErrRange, api.ErrState, api.ErrSize, api.ErrForm} {
		if codes[code] < 50 {
			t.Errorf("the code %d is told %d times alone", code, codes[code])
		}
	}
}
