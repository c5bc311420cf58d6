package seal

import (
	"slices"

	"tabulary/api"
)

const (
	writerEpoch = 1 // below those of all recoveries
	maxHeals    = 20
)

// Kinds of deeds.
const (
	recordIsWritten = iota
	recordIsAppended
	recoveryBegins
	copyIsClosed
	recoveryChooses
	copyIsEnded
)

// vault is a vault as it will be told, and what its writer has yet to write.
type vault struct {
	api.Vault
	left []string
}

// do does a deed, and tells the code of what is wrong with it, or OK.
func (v *vault) do(d api.Deed) int {
	if code := v.codeOf(d); code != api.OK {
		return code
	}
	switch d.Kind {
	case recordIsWritten:
		v.write()
	case recordIsAppended:
		v.bring(d.Who, d.N)
	case recoveryBegins:
		v.Heals = append(v.Heals, api.Heal{Epoch: d.N})
	case copyIsClosed:
		v.hear(d.Who, &v.Heals[d.N])
	case recoveryChooses:
		v.choose(&v.Heals[d.N])
	case copyIsEnded:
		v.end(d.Who, &v.Heals[d.N])
	}
	return api.OK
}

// codeOf: the code of what is wrong with a deed, as the vault is now, or OK.
func (v *vault) codeOf(d api.Deed) int {
	isFine := false
	switch d.Kind {
	case recordIsWritten:
		return v.writeCode()
	case recordIsAppended:
		isFine = has(v.Copies, d.Who) && has(v.Wrote, d.N)
	case recoveryBegins:
		return v.beginCode(d.N)
	case copyIsClosed, copyIsEnded:
		isFine = has(v.Copies, d.Who) && has(v.Heals, d.N)
	case recoveryChooses:
		isFine = has(v.Heals, d.N)
	default:
		return api.ErrKind
	}
	if !isFine {
		return api.ErrRange
	}
	return api.OK
}

func (v *vault) writeCode() int {
	if len(v.left) == 0 {
		return api.ErrNone
	}
	return api.OK
}

// beginCode: the code of why no recovery can begin in an epoch, or OK. Two of one epoch might end copies with different records.
func (v *vault) beginCode(epoch int) int {
	if epoch <= writerEpoch || epoch > api.MaxNum {
		return api.ErrRange
	}
	if slices.ContainsFunc(v.Heals, func(h api.Heal) bool { return h.Epoch == epoch }) {
		return api.ErrTwice
	}
	if len(v.Heals) == maxHeals {
		return api.ErrMuch
	}
	return api.OK
}

// write writes the next record, which no copy has taken yet.
func (v *vault) write() {
	v.Wrote = append(v.Wrote, v.left[0])
	v.Took = append(v.Took, nil)
	v.left = v.left[1:]
}

// bring brings the record number n to a copy.
func (v *vault) bring(who, n int) {
	isDone := v.ask(who, func(c api.Copy) (api.Copy, api.Fault) { return Append(c, writerEpoch, n, v.Wrote[n]) })
	if isDone {
		putOnce(&v.Took[n], who)
	}
}

// hear lets a recovery close a copy, and hear it.
func (v *vault) hear(who int, h *api.Heal) {
	isDone := v.ask(who, func(c api.Copy) (api.Copy, api.Fault) { return Close(c, h.Epoch) })
	// What comes behind the choice has no say in it.
	if isDone && !h.Has && putOnce(&h.Heard, who) {
		h.Said = append(h.Said, copied(v.Copies[who]))
	}
}

// choose lets a recovery choose, if most copies have said something to it. It never chooses anew: copies may be ended with what it chose.
func (v *vault) choose(h *api.Heal) {
	if h.Has {
		return
	}
	if recs, f := Choose(len(v.Copies), h.Said); f == (api.Fault{}) {
		h.Has, h.Recs = true, recs
	}
}

// end lets a recovery end a copy, whether it has heard that one or not.
func (v *vault) end(who int, h *api.Heal) {
	if !h.Has {
		return
	}
	isDone := v.ask(who, func(c api.Copy) (api.Copy, api.Fault) { return End(c, h.Epoch, h.Recs) })
	if isDone {
		putOnce(&h.Ends, who)
	}
}

// ask lets a copy do what is handed over, and tells whether it did; where that has a fault, the copy stays as it is.
func (v *vault) ask(who int, do func(c api.Copy) (api.Copy, api.Fault)) bool {
	c, f := do(v.Copies[who])
	if f != (api.Fault{}) {
		return false
	}
	v.Copies[who] = c
	return true
}

// has tells whether a list has a thing of that number.
func has[T any](l []T, n int) bool {
	return n >= 0 && n < len(l)
}

// putOnce puts a copy's number behind the others, and tells whether it was not there yet.
func putOnce(l *[]int, who int) bool {
	if slices.Contains(*l, who) {
		return false
	}
	*l = append(*l, who)
	return true
}
