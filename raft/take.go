package raft

import (
	"slices"

	"tabulary/api"
	"tabulary/entry"
)

// take does what a mail asks for, and tells the mails that are sent then.
func (x *node) take(m api.Mail) []api.Mail {
	x.hearOf(m.Term)
	switch m.Kind {
	case asksForVote:
		return x.takeAsking(m)
	case answersVote:
		return x.takeVote(m)
	case bringsEntries:
		return x.takeEntries(m)
	case answersEntries:
		x.takeAnswer(m)
	}
	return nil
}

// hearOf lets a node go on to a Term that is later than its own: whatever it did in that one is over.
func (x *node) hearOf(term int) {
	if term > x.Term {
		x.Term, x.Vote = term, 0
		x.follow()
	}
}

// takeAsking gives the one that asks the node's vote, or does not, and tells it so.
func (x *node) takeAsking(m api.Mail) []api.Mail {
	isFree := x.Vote == 0 || x.Vote == m.From+1
	isGiven := m.Term == x.Term && isFree && isNotOlder(m.A, m.B, x.Log)
	if isGiven {
		x.Vote = m.From + 1
	}
	return x.answer(m, answersVote, isGiven, 0)
}

// takeVote counts a vote that was asked for in this Term.
func (x *node) takeVote(m api.Mail) []api.Mail {
	if x.Role != stands || m.Term != x.Term || !m.Ok {
		return nil
	}
	x.elect(m.From)
	if x.Role != leads {
		return nil
	}
	return x.beat()
}

// takeEntries puts what is brought into the node's log, if it goes on where that has the same, and tells how far it is the same then.
func (x *node) takeEntries(m api.Mail) []api.Mail {
	if m.Term < x.Term {
		return x.answer(m, answersEntries, false, 0)
	}
	if x.Role == leads {
		return nil
	}
	x.follow()
	log, is, f := entry.Put(x.Log, m.A, m.B, m.Entries)
	if f != (api.Fault{}) || !beginsWith(log, x.Log[:x.Commit]) {
		return nil
	}
	if !is {
		return x.answer(m, answersEntries, false, max(0, min(m.A-1, len(x.Log))))
	}
	x.Log = log
	// What stands behind that may not be what the one that leads has there.
	same := m.A + len(m.Entries)
	x.Commit = max(x.Commit, min(m.C, same))
	return x.answer(m, answersEntries, true, same)
}

// takeAnswer notes how many entries the one that answers has, or where to look for what both have. An answer may come late: what was known to be there stays so.
func (x *node) takeAnswer(m api.Mail) {
	if x.Role != leads || m.Term != x.Term {
		return
	}
	next, have := &x.Next[m.From], &x.Have[m.From]
	if !m.Ok {
		*next = max(min(*next-1, m.A+1), *have+1)
		return
	}
	*have = max(*have, min(m.A, len(x.Log)))
	*next = *have + 1
	x.count()
}

// answer: the mail that answers one.
func (x *node) answer(m api.Mail, kind int, isOk bool, a int) []api.Mail {
	back := x.mail(kind, m.From)
	back.Ok, back.A = isOk, a
	return []api.Mail{back}
}

// isNotOlder tells whether a log of n entries, whose last Term is term, is not older than another one: that one is older, or both are as old.
func isNotOlder(n, term int, than []api.Entry) bool {
	isOlder, _ := entry.Older(than, n, term)
	return isOlder || n == len(than) && term == lastTerm(than)
}

// beginsWith tells whether a log has these entries ahead of all others.
func beginsWith(l, ahead []api.Entry) bool {
	return len(l) >= len(ahead) && slices.Equal(l[:len(ahead)], ahead)
}
