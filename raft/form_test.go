package raft_test

import (
	"math"
	"slices"
	"testing"

	"tabulary/api"
	"tabulary/raft"
)

// someNodes: one of each Role, the number 1 of three.
func someNodes() []api.Node {
	l := of(1, 2)
	return []api.Node{follower(3, 1, 4, l), candidate(3, 1, 4, l), knowing(leader(3, 1, 4, l), 1, 2, 0)}
}

// oneOfEach: a right mail of each Kind, to the number 1 of three.
func oneOfEach(term int) mails {
	return mails{asks(0, 1, term, 2, 2), votes(2, 1, term, true), brings(2, 1, term, 1, 1, 0, of(1, 2)[1:]), says(0, 1, term, true, 2)}
}

// change: a mail, changed.
func change(m api.Mail, how func(m *api.Mail)) api.Mail {
	how(&m)
	return m
}

func wantForm(t *testing.T, what string, m api.Mail) {
	t.Helper()
	for _, x := range someNodes() {
		wantNotTaken(t, what, x, m, fault(api.ErrForm, 0))
	}
}

// wantMail: a mail is taken by a node of each Role.
func wantMail(t *testing.T, what string, m api.Mail) {
	t.Helper()
	for _, x := range someNodes() {
		got, _, f := raft.Take(x, m)
		wantFault(t, "Take of "+what, f, api.Fault{})
		wantFault(t, "Check behind Take of "+what, raft.Check(got), api.Fault{})
	}
}

func TestMailsOfEachKind(t *testing.T) {
	for _, m := range oneOfEach(4) {
		wantMail(t, "a mail", m)
		for _, kind := range []int{0, 5, 6, -1, math.MinInt, math.MaxInt} {
			wantForm(t, "a mail of no Kind", change(m, func(m *api.Mail) { m.Kind = kind }))
		}
	}
	wantForm(t, "nothing", api.Mail{})
}

func TestMailsOfWhomAndToWhom(t *testing.T) {
	for _, m := range oneOfEach(4) {
		for _, to := range []int{0, 2, 3, -1, math.MinInt, math.MaxInt} {
			wantForm(t, "a mail to another one", change(m, func(m *api.Mail) { m.To = to }))
		}
		for _, from := range []int{1, 3, 4, -1, math.MinInt, math.MaxInt} {
			wantForm(t, "a mail of itself, or of no node", change(m, func(m *api.Mail) { m.From = from }))
		}
		for _, from := range []int{0, 2} {
			wantMail(t, "a mail of another one", change(m, func(m *api.Mail) { m.From = from }))
		}
	}
	for _, m := range oneOfEach(4) {
		m.To, m.From = 0, 0
		wantNotTaken(t, "a mail to one alone", follower(1, 0, 0, nil), m, fault(api.ErrForm, 0))
	}
}

func TestMailsOfTerms(t *testing.T) {
	for _, m := range oneOfEach(4) {
		for _, term := range []int{0, -1, -4, api.MaxNum + 1, math.MinInt, math.MaxInt} {
			wantForm(t, "a mail of no Term", change(m, func(m *api.Mail) { m.Term = term }))
		}
		m.Entries = nil
		for _, term := range []int{1, 3, 4, 5, api.MaxNum} {
			wantMail(t, "a mail of a Term", change(m, func(m *api.Mail) { m.Term = term }))
		}
	}
}

func TestMailsOfNumbers(t *testing.T) {
	fields := []func(m *api.Mail) *int{
		func(m *api.Mail) *int { return &m.A }, func(m *api.Mail) *int { return &m.B }, func(m *api.Mail) *int { return &m.C },
	}
	for _, m := range oneOfEach(4) {
		for _, field := range fields {
			for _, n := range outside() {
				wantForm(t, "a mail with a wrong number", change(m, func(m *api.Mail) { *field(m) = n }))
			}
			for _, n := range []int{0, 1, 2, 3, api.MaxNum} {
				wantMail(t, "a mail with a number", change(m, func(m *api.Mail) { *field(m) = n }))
			}
		}
		for _, ok := range []bool{false, true} {
			wantMail(t, "a mail with Ok or without", change(m, func(m *api.Mail) { m.Ok = ok }))
		}
	}
}

// TestMailsWithEntries: of Kind 3 alone, at most 5, a log, and none of a Term above the mail's.
func TestMailsWithEntries(t *testing.T) {
	bringing := func(l log) api.Mail { return brings(2, 1, 4, 2, 2, 0, l) }
	for _, l := range []log{nil, {}, of(2), of(4), of(2, 3, 4), many(5, 2), many(5, 4), of(1), {{Term: 2, Text: long(api.MaxValue)}}, {{Term: 4}}} {
		wantMail(t, "Entries", bringing(l))
		wantMail(t, "Entries behind 0", brings(2, 1, 4, 0, 0, 0, l))
	}
	for _, l := range []log{
		many(6, 2), many(api.MaxRecs, 2), many(api.MaxRecs+1, 2), many(5000, 2), make(log, 6), make(log, 1),
		of(0), of(-1), of(2, 0), of(api.MaxNum + 1), of(3, 2), of(2, 4, 3), {{Term: 2, Text: long(api.MaxValue + 1)}}, {{Term: 2}, {Term: 2, Text: long(9999)}},
		of(5), of(4, 5), of(2, 3, 4, 4, 5), of(5, 5, 5, 5, 5), of(api.MaxNum), of(5, 4),
	} {
		wantForm(t, "wrong Entries", bringing(l))
		wantForm(t, "wrong Entries behind 0", brings(2, 1, 4, 0, 0, 0, l))
	}
	for i, m := range oneOfEach(4) {
		for _, l := range []log{of(1), of(2), many(5, 2), many(6, 2), of(9)} {
			if i != 2 {
				wantForm(t, "Entries of another Kind", change(m, func(m *api.Mail) { m.Entries = l }))
			}
		}
		if i != 2 {
			wantMail(t, "no Entries of another Kind", change(m, func(m *api.Mail) { m.Entries = log{} }))
		}
	}
}

// TestMailsWithSeveralFaults: there is one fault of mails alone.
func TestMailsWithSeveralFaults(t *testing.T) {
	for _, m := range []api.Mail{
		{Kind: 9, From: 9, To: 9, Term: -1, A: -1, B: -1, C: -1, Entries: many(6, 0)}, {Kind: 3, From: 1, To: 1}, {Kind: 1, From: 0, To: 1, Term: 0, Entries: of(1)}, {Kind: 4, From: 0, To: 2, Term: 4, A: -1},
	} {
		wantForm(t, "a mail with several faults", m)
	}
}

// TestALaterTerm: whatever the Kind, the node goes on to it, with no vote given there, and follows; then it does what the mail asks for.
func TestALaterTerm(t *testing.T) {
	for _, term := range []int{5, 6, api.MaxNum} {
		for _, x := range someNodes() {
			then := following(x, term)
			wantTaken(t, "an asking of a later Term", x, asks(0, 1, term, 2, 2), withVote(then, 1), votes(1, 0, term, true))
			wantTaken(t, "an asking of a later Term by an older one", x, asks(0, 1, term, 1, 2), then, votes(1, 0, term, false))
			for _, ok := range []bool{false, true} {
				wantTaken(t, "a vote of a later Term", x, votes(0, 1, term, ok), then)
				wantTaken(t, "an answer of a later Term", x, says(0, 1, term, ok, 2), then)
			}
			brought := but(then, func(x *api.Node) { x.Log = append(x.Log, of(1, 2, term)[2:]...) })
			wantTaken(t, "entries of a later Term", x, brings(0, 1, term, 2, 2, 0, of(1, 2, term)[2:]), brought, says(1, 0, term, true, 3))
			wantTaken(t, "entries of a later Term that do not go on", x, brings(0, 1, term, 2, 1, 0, of(2)), then, says(1, 0, term, false, 1))
		}
	}
}

// TestALaterTermLeavesWhatIsForGood: and the log.
func TestALaterTermLeavesWhatIsForGood(t *testing.T) {
	for _, x := range someNodes() {
		for commit := range 3 {
			x := withCommit(x, commit)
			wantTaken(t, "a vote of a later Term", x, votes(0, 1, 9, true), following(x, 9))
		}
	}
}

// TestAMailToAnotherOne: a node takes what is sent to it by another one alone.
func TestAMailToAnotherOne(t *testing.T) {
	for n := 2; n <= api.MaxNodes; n++ {
		for id := range n {
			for to := range n {
				for from := range n {
					m := asks(from, to, 1, 0, 0)
					_, _, f := raft.Take(follower(n, id, 0, nil), m)
					if isFine := to == id && from != id; isFine != (f == api.Fault{}) || !isFine && f != fault(api.ErrForm, 0) {
						t.Errorf("of a mail from %d to %d, %d of %d tells %v", from, to, id, n, f)
					}
				}
			}
		}
	}
}

// TestMailsStay: Take reads no further than a mail's Entries go.
func TestMailsStay(t *testing.T) {
	room := slices.Concat(many(5, 3), of(-1), log{{Text: long(999)}})
	was := slices.Clone(room)
	wantTaken(t, "entries with more behind them", follower(2, 1, 3, nil), brings(0, 1, 3, 0, 0, 5, room[:5]), withCommit(follower(2, 1, 3, many(5, 3)), 5), says(1, 0, 3, true, 5))
	if !slices.Equal(room, was) {
		t.Errorf("what was handed in is changed to %s", told(room))
	}
}
