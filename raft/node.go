package raft

import (
	"slices"

	"tabulary/api"
)

// Roles of a node.
const (
	follows = iota
	stands
	leads
)

// Kinds of mails.
const (
	asksForVote = iota + 1
	answersVote
	bringsEntries
	answersEntries
)

// maxBrought: a mail brings no more entries.
const maxBrought = 5

// node is a node, with what it does. What changes it is done to a copied one alone.
type node struct {
	api.Node
}

// copied: a node in new memory, so that it may be written to and answered.
func copied(x api.Node) node {
	x.Log = slices.Clone(x.Log)
	x.Votes = slices.Clone(x.Votes)
	x.Next = slices.Clone(x.Next)
	x.Have = slices.Clone(x.Have)
	return node{x}
}

func (x *node) follow() {
	x.Role = follows
	x.Votes, x.Next, x.Have = nil, nil, nil
}

// stand: in a Term that is new to it, a node has not given its vote to anybody else.
func (x *node) stand() {
	x.follow()
	x.Term++
	x.Vote = x.ID + 1
	x.Role = stands
	x.elect(x.ID)
}

// elect gives a node that stands a vote, and lets it lead, if it has most of them then.
func (x *node) elect(who int) {
	if !slices.Contains(x.Votes, who) {
		x.Votes = append(x.Votes, who)
	}
	if areMost(len(x.Votes), x.N) {
		x.lead()
	}
}

// lead lets a node lead, which does not know yet what the others have.
func (x *node) lead() {
	x.Role, x.Votes = leads, nil
	x.Next = slices.Repeat([]int{len(x.Log) + 1}, x.N)
	x.Have = make([]int, x.N)
	x.Have[x.ID] = len(x.Log)
	x.count()
}

// count lets a node that leads know what is for good. An entry of an older Term is so with one of its own behind it alone: until then, another node could come to lead without it.
func (x *node) count() {
	for place := len(x.Log); place > x.Commit; place-- {
		if termAt(x.Log, place) == x.Term && areMost(x.having(place), x.N) {
			x.Commit = place
			return
		}
	}
}

// having: how many nodes have the entry at a place.
func (x *node) having(place int) int {
	many := 0
	for _, have := range x.Have {
		if have >= place {
			many++
		}
	}
	return many
}

func (x *node) propose(text string) {
	x.Log = append(x.Log, api.Entry{Term: x.Term, Text: text})
	x.Have[x.ID] = len(x.Log)
	x.Next[x.ID] = len(x.Log) + 1
	x.count()
}

func (x *node) askForVotes() []api.Mail {
	return x.toOthers(asksForVote, func(m *api.Mail) {
		m.A = len(x.Log)
		m.B = lastTerm(x.Log)
	})
}

func (x *node) beat() []api.Mail {
	return x.toOthers(bringsEntries, func(m *api.Mail) {
		m.A = x.Next[m.To] - 1
		m.B = termAt(x.Log, m.A)
		m.C = x.Commit
		m.Entries = slices.Clone(x.Log[m.A:min(m.A+maxBrought, len(x.Log))])
	})
}

// toOthers: a mail to each other node, in their order, with what fill writes into it.
func (x *node) toOthers(kind int, fill func(m *api.Mail)) []api.Mail {
	var out []api.Mail
	for who := range x.N {
		if who == x.ID {
			continue
		}
		m := x.mail(kind, who)
		fill(&m)
		out = append(out, m)
	}
	return out
}

// mail: one without more than all mails have.
func (x *node) mail(kind, to int) api.Mail {
	return api.Mail{Kind: kind, From: x.ID, To: to, Term: x.Term}
}

// areMost tells whether some are more than half of all.
func areMost(some, all int) bool {
	return some > all/2
}

// termAt: the Term of a log's entry at a place that it has, 0 at 0.
func termAt(l []api.Entry, place int) int {
	if place == 0 {
		return 0
	}
	return l[place-1].Term
}

func lastTerm(l []api.Entry) int {
	return termAt(l, len(l))
}
