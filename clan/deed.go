package clan

import (
	"slices"

	"tabulary/api"
	"tabulary/raft"
)

// maxOnWay: no more mails may be on their way behind a deed.
const maxOnWay = 200

// Kinds of deeds.
const (
	nodeStands = iota
	textIsProposed
	nodeBeats
	mailIsTaken
	mailIsDoubled
	mailIsLost
	nodeRestarts
)

// clan is a clan as it will be told, and the texts that no node has taken yet.
type clan struct {
	api.Clan
	left []string
}

func newClan(n int, texts []string) clan {
	c := clan{left: texts}
	for id := range n {
		c.Nodes = append(c.Nodes, api.Node{N: n, ID: id})
	}
	return c
}

// do does a deed, and tells the code of what is wrong with it, or OK.
func (c *clan) do(d api.Deed) int {
	if code := c.codeOf(d); code != api.OK {
		return code
	}
	switch d.Kind {
	case nodeStands:
		c.ask(d.Who, raft.Stand)
	case textIsProposed:
		c.propose(d.Who)
	case nodeBeats:
		c.beat(d.Who)
	case mailIsTaken:
		c.deliver(c.takeOut(d.N))
	case mailIsDoubled:
		c.double(d.N)
	case mailIsLost:
		c.takeOut(d.N)
	case nodeRestarts:
		c.restart(d.Who)
	}
	if len(c.Way) > maxOnWay {
		return api.ErrMuch
	}
	return api.OK
}

// codeOf: the code of what is wrong with a deed, as the clan is now, or OK.
func (c *clan) codeOf(d api.Deed) int {
	isFine := false
	switch d.Kind {
	case nodeStands, textIsProposed, nodeBeats, nodeRestarts:
		isFine = has(c.Nodes, d.Who)
	case mailIsTaken, mailIsDoubled, mailIsLost:
		isFine = has(c.Way, d.N)
	default:
		return api.ErrKind
	}
	if !isFine {
		return api.ErrRange
	}
	if d.Kind == textIsProposed && len(c.left) == 0 {
		return api.ErrNone
	}
	return api.OK
}

// propose proposes the next text to a node; if that does not take it, another one may yet.
func (c *clan) propose(who int) {
	isDone := c.ask(who, func(x api.Node) (api.Node, []api.Mail, api.Fault) {
		x, f := raft.Propose(x, c.left[0])
		return x, nil, f
	})
	if isDone {
		c.left = c.left[1:]
	}
}

func (c *clan) beat(who int) {
	c.ask(who, func(x api.Node) (api.Node, []api.Mail, api.Fault) {
		mails, f := raft.Beat(x)
		return x, mails, f
	})
}

// deliver lets the node that a mail goes to take it.
func (c *clan) deliver(m api.Mail) {
	c.ask(m.To, func(x api.Node) (api.Node, []api.Mail, api.Fault) { return raft.Take(x, m) })
}

// double puts a mail on its way once more, with entries of its own.
func (c *clan) double(n int) {
	m := c.Way[n]
	m.Entries = slices.Clone(m.Entries)
	c.Way = append(c.Way, m)
}

func (c *clan) restart(who int) {
	c.ask(who, func(x api.Node) (api.Node, []api.Mail, api.Fault) {
		x, f := raft.Restart(x)
		return x, nil, f
	})
}

// ask lets a node do what is handed over, puts the mails that it sends on their way, and tells whether it did; where that has a fault, the node stays as it is.
func (c *clan) ask(who int, do func(x api.Node) (api.Node, []api.Mail, api.Fault)) bool {
	x, mails, f := do(c.Nodes[who])
	if f != (api.Fault{}) {
		return false
	}
	c.Nodes[who] = x
	c.Way = append(c.Way, mails...)
	return true
}

// takeOut takes a mail off its way.
func (c *clan) takeOut(n int) api.Mail {
	m := c.Way[n]
	c.Way = slices.Delete(c.Way, n, n+1)
	return m
}

// has tells whether a list has a thing of that number.
func has[T any](l []T, n int) bool {
	return n >= 0 && n < len(l)
}
