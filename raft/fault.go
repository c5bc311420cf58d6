package raft

import (
	"slices"

	"tabulary/api"
	"tabulary/entry"
	"tabulary/view"
)

// numbersFault tells which of a node's numbers may not be.
func numbersFault(x api.Node) api.Fault {
	if !isWithin(x.N, 1, api.MaxNodes) || !isNode(x.ID, x.N) {
		return api.Fault{Code: api.ErrRange, At: -1}
	}
	if !view.IsNum(x.Term) || !isWithin(x.Vote, 0, x.N) || !isWithin(x.Role, follows, leads) || !isWithin(x.Commit, 0, len(x.Log)) {
		return api.Fault{Code: api.ErrRange, At: -2}
	}
	return api.Fault{}
}

// logFault tells what is wrong with a node's Log. It can't have heard of a Term that it was not in itself.
func logFault(x api.Node) api.Fault {
	if f := entry.Check(x.Log); f != (api.Fault{}) {
		return f
	}
	if lastTerm(x.Log) > x.Term {
		return api.Fault{Code: api.ErrState, At: -3}
	}
	return api.Fault{}
}

// areVotes tells whether a node may have its Votes: with most of them, it would lead.
func areVotes(x api.Node) bool {
	if x.Role != stands {
		return len(x.Votes) == 0
	}
	times := map[int]int{}
	for _, who := range x.Votes {
		times[who]++
		if times[who] > 1 || !isNode(who, x.N) {
			return false
		}
	}
	return times[x.ID] == 1 && !areMost(len(x.Votes), x.N)
}

// areKnown tells whether a node may have its Next and Have: the one that leads is never behind another one.
func areKnown(x api.Node) bool {
	return areOfEach(x, x.Next, 1, len(x.Log)+1) && areOfEach(x, x.Have, 0, len(x.Log))
}

// areOfEach tells whether there is one number of each node, from from to to, if the node leads; else there may be none.
func areOfEach(x api.Node, l []int, from, to int) bool {
	if x.Role != leads {
		return len(l) == 0
	}
	isOut := func(n int) bool { return !isWithin(n, from, to) }
	return len(l) == x.N && !slices.ContainsFunc(l, isOut)
}

func standFault(x api.Node) api.Fault {
	if f := Check(x); f != (api.Fault{}) {
		return f
	}
	if x.Role == leads {
		return api.Fault{Code: api.ErrState}
	}
	if x.Term == api.MaxNum {
		return api.Fault{Code: api.ErrMuch}
	}
	return api.Fault{}
}

// leadFault tells why a node can't do what just one that leads does.
func leadFault(x api.Node) api.Fault {
	if f := Check(x); f != (api.Fault{}) {
		return f
	}
	if x.Role != leads {
		return api.Fault{Code: api.ErrState}
	}
	return api.Fault{}
}

func proposeFault(x api.Node, text string) api.Fault {
	if f := leadFault(x); f != (api.Fault{}) {
		return f
	}
	if len(text) > api.MaxValue {
		return api.Fault{Code: api.ErrSize}
	}
	if len(x.Log) == api.MaxRecs {
		return api.Fault{Code: api.ErrMany}
	}
	return api.Fault{}
}

func takeFault(x api.Node, m api.Mail) api.Fault {
	if f := Check(x); f != (api.Fault{}) {
		return f
	}
	if !isSentTo(x, m) || !areMailNumbers(m) || !areBrought(m) {
		return api.Fault{Code: api.ErrForm}
	}
	return api.Fault{}
}

// isSentTo tells whether a mail is one to this node from another one.
func isSentTo(x api.Node, m api.Mail) bool {
	return isWithin(m.Kind, asksForVote, answersEntries) && m.To == x.ID && isNode(m.From, x.N) && m.From != x.ID
}

// areMailNumbers tells whether a mail may have its numbers. Who sends something has come to a Term above 0.
func areMailNumbers(m api.Mail) bool {
	return isWithin(m.Term, 1, api.MaxNum) && view.IsNum(m.A) && view.IsNum(m.B) && view.IsNum(m.C)
}

// areBrought tells whether a mail may have its Entries. None can have come in a Term behind the one in which they are sent.
func areBrought(m api.Mail) bool {
	if len(m.Entries) == 0 {
		return true
	}
	return m.Kind == bringsEntries && len(m.Entries) <= maxBrought && entry.Check(m.Entries) == (api.Fault{}) && lastTerm(m.Entries) <= m.Term
}

func isWithin(n, from, to int) bool {
	return n >= from && n <= to
}

// isNode tells whether a number is that of one of n nodes.
func isNode(who, n int) bool {
	return isWithin(who, 0, n-1)
}
