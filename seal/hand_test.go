package seal_test

import (
	"slices"
	"testing"

	"tabulary/api"
	"tabulary/seal"
)

// byHand is a vault as the chapter tells it, and all that its writer writes.
type byHand struct {
	api.Vault
	recs []string
}

func newByHand(n int, recs []string) *byHand {
	return &byHand{Vault: api.Vault{Copies: make([]api.Copy, n)}, recs: recs}
}

// codeByHand: what is wrong with a deed.
func (h *byHand) codeByHand(d api.Deed) int {
	if d.Kind < 0 || d.Kind > 5 {
		return api.ErrKind
	}
	if d.Kind%2 == 1 && (d.Who < 0 || d.Who >= len(h.Copies)) {
		return api.ErrRange
	}
	// The N of each kind is from the first one on, and below the second one.
	from := []int{d.N, 0, 2, 0, 0, 0}[d.Kind]
	below := []int{d.N + 1, len(h.Wrote), api.MaxNum + 1, len(h.Heals), len(h.Heals), len(h.Heals)}[d.Kind]
	if d.N < from || d.N >= below {
		return api.ErrRange
	}
	if d.Kind == 0 && len(h.Wrote) == len(h.recs) {
		return api.ErrNone
	}
	if d.Kind != 2 {
		return api.OK
	}
	for _, heal := range h.Heals {
		if heal.Epoch == d.N {
			return api.ErrTwice
		}
	}
	if len(h.Heals) >= 20 {
		return api.ErrMuch
	}
	return api.OK
}

// once: a number behind the others, if it is not there.
func once(l []int, n int) []int {
	if slices.Contains(l, n) {
		return l
	}
	return append(slices.Clone(l), n)
}

// bringByHand: what happens when a record is brought to a copy.
func (h *byHand) bringByHand(who, n int) {
	c := &h.Copies[who]
	if c.Closed || c.Epoch > 1 || n > len(c.Recs) {
		return
	}
	if n == len(c.Recs) {
		c.Recs = slices.Concat(c.Recs, []string{h.Wrote[n]})
	}
	c.Epoch = 1
	h.Took[n] = once(h.Took[n], who)
}

// shutByHand: what happens when a recovery closes a copy.
func (h *byHand) shutByHand(who, n int) {
	heal, c := &h.Heals[n], &h.Copies[who]
	if heal.Epoch < c.Epoch {
		return
	}
	c.Epoch, c.Closed = heal.Epoch, true
	if !heal.Has && !slices.Contains(heal.Heard, who) {
		heal.Heard = append(heal.Heard, who)
		heal.Said = append(heal.Said, *c)
	}
}

// chooseByHand: what happens when a recovery chooses.
func (h *byHand) chooseByHand(n int) {
	heal := &h.Heals[n]
	if heal.Has || 2*len(heal.Said) <= len(h.Copies) {
		return
	}
	// What was ended stands ahead of what has more records, and the first one ahead of others that are alike.
	said := slices.Clone(heal.Said)
	slices.SortStableFunc(said, func(a, b api.Copy) int {
		if a.Ended != b.Ended || a.Ended > 0 {
			return b.Ended - a.Ended
		}
		return len(b.Recs) - len(a.Recs)
	})
	heal.Has, heal.Recs = true, said[0].Recs
}

// endByHand: what happens when a recovery ends a copy.
func (h *byHand) endByHand(who, n int) {
	heal, c := &h.Heals[n], &h.Copies[who]
	if !heal.Has || heal.Epoch < c.Epoch {
		return
	}
	*c = api.Copy{Epoch: heal.Epoch, Closed: true, Recs: heal.Recs, Ended: heal.Epoch}
	heal.Ends = once(heal.Ends, who)
}

// doByHand does a deed, and tells what is wrong with it.
func (h *byHand) doByHand(d api.Deed) int {
	if code := h.codeByHand(d); code != api.OK {
		return code
	}
	switch d.Kind {
	case 0:
		h.Wrote = h.recs[:len(h.Wrote)+1]
		h.Took = append(h.Took, nil)
	case 1:
		h.bringByHand(d.Who, d.N)
	case 2:
		h.Heals = append(h.Heals, api.Heal{Epoch: d.N})
	case 3:
		h.shutByHand(d.Who, d.N)
	case 4:
		h.chooseByHand(d.N)
	case 5:
		h.endByHand(d.Who, d.N)
	}
	return api.OK
}

// playByHand: what Play promises of deeds, if nothing is wrong ahead of them.
func playByHand(n int, recs []string, s script) (api.Vault, api.Fault) {
	h := newByHand(n, recs)
	for i, d := range s {
		if code := h.doByHand(d); code != api.OK {
			return api.Vault{}, fault(code, i)
		}
	}
	return h.Vault, api.Fault{}
}

// anyDeed: mostly one that may be done in a vault; rarely a recovery begins, in whatever epoch.
func anyDeed(s *number, v api.Vault) api.Deed {
	who := s.below(len(v.Copies))
	n := s.below(max(len(v.Heals), 1))
	// A copy can take what it does not have yet.
	next := min(len(v.Copies[who].Recs), max(len(v.Wrote)-1, 0))
	switch s.below(15) {
	case 0:
		return write()
	case 1, 2, 3:
		return bring(who, next)
	case 4:
		return bring(who, s.below(max(len(v.Wrote), 1)))
	case 5:
		return begin(2 + s.below(12))
	case 6, 7, 8:
		return shut(who, n)
	case 9, 10:
		return choose(n)
	}
	return end(who, n)
}

// anyScript: at most so many deeds without a fault, in a vault of n copies.
func anyScript(s *number, n int, recs []string, many int) script {
	h := newByHand(n, recs)
	var out script
	for range many {
		if d := anyDeed(s, h.Vault); h.doByHand(d) == api.OK {
			out = append(out, d)
		}
	}
	return out
}

// TestWhateverIsPlayed: scripts of all kinds, some with a wrong deed, held against what is done by hand.
func TestWhateverIsPlayed(t *testing.T) {
	s := number(1)
	codes, chosen, ends := map[int]int{}, 0, 0
	for range 30000 {
		n, recs := 1+s.below(7), texts(s.below(6))
		l := anyScript(&s, n, recs, 1+s.below(90))
		if s.below(3) == 0 && len(l) > 0 {
			l[s.below(len(l))] = api.Deed{Kind: s.below(8) - 1, Who: s.below(9) - 1, N: s.of(-1, 0, 1, 2, 3, 5, api.MaxNum, api.MaxNum+1)}
		}
		vault, want := playByHand(n, recs, l)
		got, f := seal.Play(n, recs, l)
		if f != want || !sameVault(got, vault) {
			t.Fatalf("Play of %d, %v and %v: %v, %v, want %v, %v", n, recs, l, got, f, vault, want)
		}
		codes[want.Code]++
		for _, heal := range vault.Heals {
			ends += len(heal.Ends)
			if heal.Has {
				chosen++
			}
		}
	}
	for _, code := range []int{api.OK, api.ErrKind, api.ErrRange, api.ErrNone, api.ErrTwice} {
		if codes[code] < 50 {
			t.Errorf("the code %d is told %d times alone", code, codes[code])
		}
	}
	if chosen < 1000 || ends < 1000 {
		t.Errorf("%d recoveries have chosen, and %d copies were ended, which is little", chosen, ends)
	}
}
