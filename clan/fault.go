package clan

import (
	"tabulary/api"
	"tabulary/raft"
)

// playFault tells what is wrong ahead of all deeds. A text that is too long is none of it: no node takes it, that is all.
func playFault(n, texts, deeds int) api.Fault {
	if n < 1 || n > api.MaxNodes {
		return api.Fault{Code: api.ErrRange, At: -1}
	}
	if deeds > api.MaxOps {
		return api.Fault{Code: api.ErrMany, At: -1}
	}
	if texts > api.MaxRecs {
		return api.Fault{Code: api.ErrMany, At: -2}
	}
	return api.Fault{}
}

// goodFault tells why nothing can be said of what a clan's nodes know. Each node is looked at by itself: whether they go together is not asked.
func goodFault(c api.Clan) api.Fault {
	if len(c.Nodes) > api.MaxNodes {
		return api.Fault{Code: api.ErrMany, At: -1}
	}
	for i, x := range c.Nodes {
		if f := raft.Check(x); f != (api.Fault{}) {
			return api.Fault{Code: f.Code, At: i}
		}
	}
	return api.Fault{}
}
