package lease_test

import (
	"slices"
	"testing"

	"tabulary/api"
	"tabulary/lease"
)

// byHand is a court as the chapter tells it, and all that its clocks showed, the granter's first.
type byHand struct {
	api.Court
	span  int
	shown [][]int
}

func newByHand(span, clients int) *byHand {
	h := &byHand{span: span}
	h.Clocks, h.Trusts = make([]int, clients), make([]api.Trust, clients)
	h.show()
	return h
}

func (h *byHand) show() {
	h.shown = append(h.shown, append([]int{h.Now}, h.Clocks...))
}

// codeByHand: what is wrong with a deed's Kind, Who and N.
func (h *byHand) codeByHand(d api.Deed) int {
	if d.Kind < 0 || d.Kind > 8 {
		return api.ErrKind
	}
	if slices.Contains([]int{1, 2, 5}, d.Kind) && (d.Who < 0 || d.Who >= len(h.Clocks)) {
		return api.ErrRange
	}
	// The N of each kind is below that.
	below := []int{1000001, 1000001, -1, len(h.Wishes), len(h.Replies), -1, len(h.Wishes), len(h.Wishes), len(h.Replies)}[d.Kind]
	if below >= 0 && (d.N < 0 || d.N >= below) {
		return api.ErrRange
	}
	return api.OK
}

// wishByHand: what happens when a wish arrives.
func (h *byHand) wishByHand(w api.Wish) {
	isHeld := h.Lease.Holder != 0 && h.Now < h.Lease.Until
	switch {
	case w.Epoch == 0 && !isHeld:
		h.Lease = leaseOf(w.Who+1, h.Lease.Epoch+1, h.Now+h.span)
	case w.Epoch != 0 && isHeld && h.Lease.Holder == w.Who+1 && h.Lease.Epoch == w.Epoch:
		h.Lease.Until = max(h.Lease.Until, h.Now+h.span)
	default:
		return
	}
	h.Replies = append(h.Replies, reply(w.Who, h.Lease.Epoch, w.Sent+h.span-h.span/4))
}

// replyByHand: what happens when a reply arrives.
func (h *byHand) replyByHand(r api.Reply) {
	had := h.Trusts[r.Who]
	isNewer := r.Trust.Epoch > had.Epoch
	isLonger := r.Trust.Epoch == had.Epoch && r.Trust.Until > had.Until
	if isNewer || isLonger {
		h.Trusts[r.Who] = r.Trust
	}
}

// doByHand does a deed, and tells what is wrong with it.
func (h *byHand) doByHand(d api.Deed) int {
	if code := h.codeByHand(d); code != api.OK {
		return code
	}
	switch d.Kind {
	case 0:
		h.Now += d.N
	case 1:
		h.Clocks[d.Who] += d.N
	case 2:
		epoch := 0
		if h.Clocks[d.Who] < h.Trusts[d.Who].Until {
			epoch = h.Trusts[d.Who].Epoch
		}
		h.Wishes = append(h.Wishes, wish(d.Who, h.Clocks[d.Who], epoch))
	case 3:
		w := h.Wishes[d.N]
		h.Wishes = slices.Concat(h.Wishes[:d.N], h.Wishes[d.N+1:])
		h.wishByHand(w)
	case 4:
		h.replyByHand(h.Replies[d.N])
		h.Replies = slices.Concat(h.Replies[:d.N], h.Replies[d.N+1:])
	case 5:
		h.Trusts[d.Who] = trust(0, 0)
	case 6:
		h.Wishes = append(h.Wishes, h.Wishes[d.N])
	case 7:
		h.Wishes = slices.Concat(h.Wishes[:d.N], h.Wishes[d.N+1:])
	case 8:
		h.Replies = slices.Concat(h.Replies[:d.N], h.Replies[d.N+1:])
	}
	if h.Now > 900000000 || slices.Max(h.Clocks) > 900000000 || len(h.Wishes) > 100 || len(h.Replies) > 100 {
		return api.ErrMuch
	}
	h.show()
	return api.OK
}

// isFairByHand looks at each two moments.
func (h *byHand) isFairByHand() bool {
	for i, from := range h.shown {
		for _, to := range h.shown[i:] {
			if to[0]-from[0] < h.span {
				continue
			}
			for who := range h.Clocks {
				if to[1+who]-from[1+who] < h.span-h.span/4 {
					return false
				}
			}
		}
	}
	return true
}

// playByHand: what Play and Fair promise of deeds, if nothing is wrong ahead of them.
func playByHand(span, clients int, s script) (api.Court, bool, api.Fault) {
	h := newByHand(span, clients)
	for i, d := range s {
		if code := h.doByHand(d); code != api.OK {
			return api.Court{}, false, fault(code, i)
		}
	}
	return h.Court, h.isFairByHand(), api.Fault{}
}

// anyDeed: mostly one that may be done, of a court of that many clients, and in a script whose span is that.
func anyDeed(s *number, c api.Court, span int) api.Deed {
	who := s.below(len(c.Clocks))
	wishes, replies := max(len(c.Wishes), 1), max(len(c.Replies), 1)
	n := s.of(0, 1, 1, 2, span/4, span-span/4, span-span/4-1, span-1, span)
	switch s.below(12) {
	case 0:
		return tick(n)
	case 1, 2:
		return step(who, n)
	case 3, 4:
		return send(who)
	case 5, 6:
		return wishComes(s.below(wishes))
	case 7, 8:
		return replyComes(s.below(replies))
	case 9:
		return wishAgain(s.below(wishes))
	case 10:
		return s.lost(wishes, replies)
	}
	return forget(who)
}

func (s *number) lost(wishes, replies int) api.Deed {
	if s.below(2) == 0 {
		return wishIsLost(s.below(wishes))
	}
	return replyIsLost(s.below(replies))
}

// anyScript: at most n deeds without a fault.
func anyScript(s *number, span, clients, n int) script {
	h := newByHand(span, clients)
	var out script
	for range n {
		d := anyDeed(s, h.Court, span)
		if h.codeByHand(d) == api.OK && h.doByHand(d) == api.OK {
			out = append(out, d)
		}
	}
	return out
}

// TestWhateverIsPlayed: scripts of all kinds, some with a wrong deed, held against what is done by hand.
func TestWhateverIsPlayed(t *testing.T) {
	s := number(1)
	codes, fair := map[int]int{}, map[bool]int{}
	for range 6000 {
		span, clients := s.of(4, 5, 6, 7, 8, 100, 1000000), 1+s.below(8)
		l := anyScript(&s, span, clients, 1+s.below(60))
		if s.below(3) == 0 && len(l) > 0 {
			l[s.below(len(l))] = api.Deed{Kind: s.below(11) - 1, Who: s.below(10) - 1, N: s.of(-1, 0, 1, 2, 1000000, 1000001)}
		}
		court, is, want := playByHand(span, clients, l)
		got, f := lease.Play(span, clients, l)
		if f != want || !sameCourt(got, court) {
			t.Fatalf("Play of %d, %d and %v: %v, %v, want %v, %v", span, clients, l, got, f, court, want)
		}
		isSo, f := lease.Fair(span, clients, l)
		if f != want || isSo != is {
			t.Fatalf("Fair of %d, %d and %v: %v, %v, want %v, %v", span, clients, l, isSo, f, is, want)
		}
		codes[want.Code]++
		fair[is && len(l) > 20]++
	}
	for _, code := range []int{api.OK, api.ErrKind, api.ErrRange} {
		if codes[code] < 50 {
			t.Errorf("the code %d is told %d times alone", code, codes[code])
		}
	}
	if fair[true] < 50 || fair[false] < 50 {
		t.Errorf("fair and long, or not: %v", fair)
	}
}
