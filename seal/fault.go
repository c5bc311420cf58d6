package seal

import (
	"slices"

	"tabulary/api"
	"tabulary/view"
)

// epochFault tells what is wrong with a copy that is to be changed in an epoch; of given, what is wrong with what it is to get, it tells ahead of an epoch that is too old.
func epochFault(c api.Copy, epoch int, given api.Fault) api.Fault {
	if f := Check(c); f != (api.Fault{}) {
		return f
	}
	if epoch == 0 || !view.IsNum(epoch) {
		return api.Fault{Code: api.ErrRange, At: -1}
	}
	if given != (api.Fault{}) {
		return given
	}
	if epoch < c.Epoch {
		return api.Fault{Code: api.ErrStale, At: -1}
	}
	return api.Fault{}
}

// appendFault tells why a record can't be the record number at of a copy.
func appendFault(c api.Copy, at int, rec string) api.Fault {
	code := api.OK
	switch {
	case c.Closed:
		code = api.ErrState
	case isLong(rec):
		code = api.ErrSize
	case at < 0 || at > len(c.Recs):
		code = api.ErrRange
	case at < len(c.Recs) && c.Recs[at] != rec:
		code = api.ErrFalse
	// One that is there already needs no room.
	case at == api.MaxRecs:
		code = api.ErrMany
	default:
		return api.Fault{}
	}
	return api.Fault{Code: code, At: -2}
}

// chosenFault tells what is wrong with records that a copy is to be ended with.
func chosenFault(recs []string) api.Fault {
	if len(recs) > api.MaxRecs {
		return api.Fault{Code: api.ErrMany, At: -2}
	}
	return longFault(recs)
}

// chooseFault tells why nothing can be chosen by what some of n copies have said.
func chooseFault(n int, said []api.Copy) api.Fault {
	if !isNodes(n) {
		return api.Fault{Code: api.ErrRange, At: -1}
	}
	if len(said) > n {
		return api.Fault{Code: api.ErrMany, At: -1}
	}
	for i, c := range said {
		if f := Check(c); f != (api.Fault{}) {
			return api.Fault{Code: f.Code, At: i}
		}
		if !c.Closed {
			return api.Fault{Code: api.ErrState, At: i}
		}
	}
	if !areMost(len(said), n) {
		return api.Fault{Code: api.ErrNone, At: -1}
	}
	return api.Fault{}
}

// playFault tells what is wrong ahead of all deeds.
func playFault(n int, recs []string, deeds int) api.Fault {
	if !isNodes(n) {
		return api.Fault{Code: api.ErrRange, At: -1}
	}
	if deeds > api.MaxOps {
		return api.Fault{Code: api.ErrMany, At: -1}
	}
	if len(recs) > api.MaxRecs {
		return api.Fault{Code: api.ErrMany, At: -2}
	}
	if slices.ContainsFunc(recs, isLong) {
		return api.Fault{Code: api.ErrSize, At: -2}
	}
	return api.Fault{}
}

// longFault tells the first record that is too long.
func longFault(recs []string) api.Fault {
	if at := slices.IndexFunc(recs, isLong); at >= 0 {
		return api.Fault{Code: api.ErrSize, At: at}
	}
	return api.Fault{}
}

func isLong(rec string) bool {
	return len(rec) > api.MaxValue
}

// isNodes tells whether a file may stand in so many copies.
func isNodes(n int) bool {
	return n >= 1 && n <= api.MaxNodes
}
