package lease

import (
	"tabulary/api"
	"tabulary/view"
)

const (
	minSpan    = 4
	maxSpan    = 1000000
	maxClients = 8
)

// askFault tells what is wrong with what a lease is asked for with.
func askFault(l api.Lease, who, now, span int) api.Fault {
	if f := Check(l); f != (api.Fault{}) {
		return f
	}
	// As a Holder, 0 is nobody.
	if who == 0 || !view.IsNum(who) {
		return api.Fault{Code: api.ErrRange, At: -1}
	}
	if !view.IsNum(now) {
		return api.Fault{Code: api.ErrRange, At: -2}
	}
	return spanFault(span)
}

func spanFault(span int) api.Fault {
	if span < minSpan || span > maxSpan {
		return api.Fault{Code: api.ErrRange, At: -3}
	}
	return api.Fault{}
}

// unlessMuch answers a lease that came out, unless one of its numbers is too large.
func unlessMuch(l api.Lease) (api.Lease, api.Fault) {
	if Check(l) != (api.Fault{}) {
		return api.Lease{}, api.Fault{Code: api.ErrMuch}
	}
	return l, api.Fault{}
}

// playFault tells what is wrong ahead of all deeds.
func playFault(span, clients, deeds int) api.Fault {
	if f := spanFault(span); f != (api.Fault{}) {
		return f
	}
	if clients < 1 || clients > maxClients {
		return api.Fault{Code: api.ErrRange, At: -1}
	}
	if deeds > api.MaxOps {
		return api.Fault{Code: api.ErrMany, At: -1}
	}
	return api.Fault{}
}
