package lease

import (
	"slices"

	"tabulary/api"
)

const (
	maxStep  = 1000000   // a clock goes on by no more at once
	maxClock = 900000000 // no clock goes on beyond that
	maxOnWay = 100       // wishes on their way, and replies
)

// Kinds of deeds.
const (
	granterGoesOn = iota
	clientGoesOn
	wishIsSent
	wishArrives
	replyArrives
	trustIsForgotten
	wishIsDoubled
	wishIsLost
	replyIsLost
)

// court is a court as it will be told, and for how long its lease is granted.
type court struct {
	api.Court
	span int
}

// played plays deeds, and lets look see the court at each moment: ahead of all deeds, and behind each one.
func played(span, clients int, deeds []api.Deed, look func(c api.Court)) (api.Court, api.Fault) {
	if f := playFault(span, clients, len(deeds)); f != (api.Fault{}) {
		return api.Court{}, f
	}
	c := court{span: span}
	c.Clocks = make([]int, clients)
	c.Trusts = make([]api.Trust, clients)
	look(c.Court)
	for i, d := range deeds {
		if code := c.do(d); code != api.OK {
			return api.Court{}, api.Fault{Code: code, At: i}
		}
		look(c.Court)
	}
	return c.Court, api.Fault{}
}

// do does a deed, and tells the code of what is wrong with it, or OK.
func (c *court) do(d api.Deed) int {
	if code := c.codeOf(d); code != api.OK {
		return code
	}
	switch d.Kind {
	case granterGoesOn:
		return goOn(&c.Now, d.N)
	case clientGoesOn:
		return goOn(&c.Clocks[d.Who], d.N)
	case wishIsSent:
		return c.send(d.Who)
	case wishArrives:
		return c.answer(take(&c.Wishes, d.N))
	case replyArrives:
		c.believe(take(&c.Replies, d.N))
	case trustIsForgotten:
		c.Trusts[d.Who] = api.Trust{}
	case wishIsDoubled:
		return putOnWay(&c.Wishes, c.Wishes[d.N])
	case wishIsLost:
		take(&c.Wishes, d.N)
	case replyIsLost:
		take(&c.Replies, d.N)
	}
	return api.OK
}

// codeOf: the code of what is wrong with a deed's numbers, as the court is now, or OK.
func (c *court) codeOf(d api.Deed) int {
	isFine := false
	switch d.Kind {
	case granterGoesOn:
		isFine = isStep(d.N)
	case clientGoesOn:
		isFine = has(c.Clocks, d.Who) && isStep(d.N)
	case wishIsSent, trustIsForgotten:
		isFine = has(c.Clocks, d.Who)
	case wishArrives, wishIsDoubled, wishIsLost:
		isFine = has(c.Wishes, d.N)
	case replyArrives, replyIsLost:
		isFine = has(c.Replies, d.N)
	default:
		return api.ErrKind
	}
	if !isFine {
		return api.ErrRange
	}
	return api.OK
}

// send puts a client's wish on its way: to keep the epoch that it trusts in, or for a new one.
func (c *court) send(who int) int {
	w := api.Wish{Who: who, Sent: c.Clocks[who]}
	if t := c.Trusts[who]; w.Sent < t.Until {
		w.Epoch = t.Epoch
	}
	return putOnWay(&c.Wishes, w)
}

// answer does what a wish asks for, and puts a reply on its way, if it can be done.
func (c *court) answer(w api.Wish) int {
	l, f := c.asked(w)
	if f != (api.Fault{}) {
		return api.OK
	}
	c.Lease = l
	// From when the wish was sent on, not from when it arrived, which its sender can't tell.
	t := api.Trust{Epoch: l.Epoch, Until: w.Sent + trusted(c.span)}
	return putOnWay(&c.Replies, api.Reply{Who: w.Who, Trust: t})
}

// asked: the lease as a wish asks for it. As a Holder, 0 is nobody, so that clients are counted from 1 on there.
func (c *court) asked(w api.Wish) (api.Lease, api.Fault) {
	if w.Epoch == 0 {
		return Grant(c.Lease, w.Who+1, c.Now, c.span)
	}
	return Renew(c.Lease, w.Who+1, w.Epoch, c.Now, c.span)
}

// believe lets a client trust in a reply, unless it trusts in something newer. Replies may come late, and in any order.
func (c *court) believe(r api.Reply) {
	t := c.Trusts[r.Who]
	if r.Epoch > t.Epoch || r.Epoch == t.Epoch && r.Until > t.Until {
		c.Trusts[r.Who] = r.Trust
	}
}

func isStep(n int) bool {
	return n >= 0 && n <= maxStep
}

// goOn lets a clock go on, and tells OK, or ErrMuch.
func goOn(clock *int, n int) int {
	if *clock+n > maxClock {
		return api.ErrMuch
	}
	*clock += n
	return api.OK
}

// has tells whether a list has a thing of that number.
func has[T any](l []T, n int) bool {
	return n >= 0 && n < len(l)
}

// take takes the thing of a number out of a list.
func take[T any](l *[]T, n int) T {
	thing := (*l)[n]
	*l = slices.Delete(*l, n, n+1)
	return thing
}

// putOnWay puts a thing behind those that are on their way, and tells OK, or ErrMuch.
func putOnWay[T any](l *[]T, thing T) int {
	if len(*l) == maxOnWay {
		return api.ErrMuch
	}
	*l = append(*l, thing)
	return api.OK
}
