package clan_test

import (
	"math"
	"slices"
	"testing"

	"tabulary/api"
	"tabulary/clan"
	"tabulary/raft"
)

// byHand is a clan as the chapter tells it: its nodes, all mails that were ever sent, and which of them are on their way yet, how many texts were taken, and all deeds that led to it.
type byHand struct {
	nodes []api.Node
	sent  mails
	isOff []bool
	texts []string
	taken int
	deeds script
}

func newByHand(n int, texts []string) *byHand { return &byHand{nodes: fresh(n), texts: texts} }

// onWay: the numbers, of all mails that were sent, of those that are on their way.
func (h *byHand) onWay() []int {
	var out []int
	for i, isOff := range h.isOff {
		if !isOff {
			out = append(out, i)
		}
	}
	return out
}

func (h *byHand) clan() api.Clan {
	out := api.Clan{Nodes: slices.Clone(h.nodes)}
	for _, i := range h.onWay() {
		out.Way = append(out.Way, h.sent[i])
	}
	return out
}

func (h *byHand) send(more ...api.Mail) {
	for _, m := range more {
		h.sent = append(h.sent, m)
		h.isOff = append(h.isOff, false)
	}
}

// do does a deed, and tells the code of what is wrong with it, or 0.
func (h *byHand) do(d api.Deed) int {
	way := h.onWay()
	isOfMail := []int{0, 0, 0, 1, 1, 1, 0}
	if d.Kind < 0 || d.Kind >= len(isOfMail) {
		return api.ErrKind
	}
	number, below := d.Who, len(h.nodes)
	if isOfMail[d.Kind] == 1 {
		number, below = d.N, len(way)
	}
	if number < 0 || number >= below {
		return api.ErrRange
	}
	if d.Kind == 1 && h.taken == len(h.texts) {
		return api.ErrNone
	}
	h.deeds = append(h.deeds, d)
	if isOfMail[d.Kind] == 1 {
		h.mailByHand(d.Kind, way[d.N])
	} else {
		h.nodeByHand(d.Kind, d.Who)
	}
	if len(h.onWay()) > 200 {
		return api.ErrMuch
	}
	return 0
}

// nodeByHand: a node does something of itself.
func (h *byHand) nodeByHand(kind, who int) {
	x := h.nodes[who]
	switch {
	case kind == 0 && x.Role != 2:
		next, more, _ := raft.Stand(x)
		h.nodes[who] = next
		h.send(more...)
	case kind == 1 && x.Role == 2 && len(h.texts[h.taken]) <= 200:
		h.nodes[who], _ = raft.Propose(x, h.texts[h.taken])
		h.taken++
	case kind == 2 && x.Role == 2:
		more, _ := raft.Beat(x)
		h.send(more...)
	case kind == 6:
		h.nodes[who] = follower(x.N, who, x.Term, x.Vote, x.Log, 0)
	}
}

// mailByHand: something happens to a mail.
func (h *byHand) mailByHand(kind, n int) {
	m := h.sent[n]
	if kind == 4 {
		h.send(m)
		return
	}
	h.isOff[n] = true
	if kind == 3 {
		next, more, _ := raft.Take(h.nodes[m.To], m)
		h.nodes[m.To] = next
		h.send(more...)
	}
}

// leading: a node that leads, from one on; or that one, if none does.
func (h *byHand) leading(from int) int {
	for i := range h.nodes {
		if who := (from + i) % len(h.nodes); h.nodes[who].Role == 2 {
			return who
		}
	}
	return from
}

// temper: of each 100 deeds, how many nodes stand or restart, and how many mails are doubled or lost, about; of the others, most are mails that are taken.
type temper struct{ stand, restart, double, lose int }

// something that may happen next, and has no fault.
func (h *byHand) something(s *number, how temper) api.Deed {
	who, many := s.below(len(h.nodes)), len(h.onWay())
	kind := s.below(100)
	isLess := func(n int) bool { kind -= n; return kind < 0 }
	switch {
	case many > 180:
		return lose(s.below(many))
	case isLess(how.stand):
		return stand(who)
	case isLess(how.restart):
		return restart(who)
	case many > 0 && isLess(how.double):
		return double(s.below(many))
	case many > 0 && isLess(how.lose):
		return lose(s.below(many))
	case many == 0 && h.nodes[h.leading(who)].Role != 2:
		return stand(who)
	case h.taken < len(h.texts) && isLess(7):
		return propose(h.leading(who))
	case many == 0 || many < 60 && isLess(12):
		return beat(h.leading(who))
	}
	// Those that were sent first come first, as a rule, but some come late.
	return take(min(s.below(many), s.below(many), s.below(many)))
}

// tempers: calm ones, and such in which much goes wrong.
func tempers() []temper {
	return []temper{{1, 0, 0, 0}, {2, 1, 5, 5}, {3, 3, 10, 10}, {6, 6, 5, 5}, {15, 5, 5, 5}, {2, 10, 15, 2}, {4, 1, 30, 5}, {3, 1, 5, 25}}
}

func anyTemper(s *number) temper { return tempers()[s.below(len(tempers()))] }

// wantByHand: Play of all deeds so far is what they lead to by hand.
func (h *byHand) wantByHand(t *testing.T) api.Clan {
	t.Helper()
	got, want := mustPlay(t, len(h.nodes), h.texts, h.deeds), h.clan()
	if !sameClan(got, want) {
		t.Fatalf("behind %v: %s, want %s", h.deeds, told(got), told(want))
	}
	return got
}

// TestPlayByHand: of clans of all sizes, behind each deed.
func TestPlayByHand(t *testing.T) {
	s := number(1)
	for range 150 {
		h := newByHand(1+s.below(api.MaxNodes), anyTexts(&s))
		how := anyTemper(&s)
		for range 80 {
			if code := h.do(h.something(&s, how)); code != 0 {
				t.Fatalf("the code %d", code)
			}
			h.wantByHand(t)
		}
	}
}

// anyTexts: none, some, or as many as may be; some are too long.
func anyTexts(s *number) []string {
	out := texts([]int{0, 1, 3, 20, api.MaxRecs, api.MaxRecs}[s.below(6)])
	if len(out) > 0 && s.below(4) == 0 {
		out[s.below(len(out))] = long(200 + s.below(2))
	}
	return out
}

// wrong: a deed that has mostly a fault.
func (h *byHand) wrong(s *number) api.Deed {
	n, many := len(h.nodes), len(h.onWay())
	d := api.Deed{Kind: s.below(7), Who: s.below(n), N: s.below(max(1, many))}
	switch s.below(4) {
	case 0:
		d.Kind = []int{-1, 7, math.MinInt, math.MaxInt}[s.below(4)]
	case 1:
		d.Who = []int{-1, n, math.MinInt, math.MaxInt}[s.below(4)]
	case 2:
		d.N = []int{-1, many, math.MinInt, math.MaxInt}[s.below(4)]
	case 3:
		d.Kind = 1
	}
	return d
}

// anything: mostly a deed without a fault; where mails come to be many, ever more of them.
func (h *byHand) anything(s *number, how temper, isMany bool) api.Deed {
	if s.below(150) == 0 {
		return h.wrong(s)
	}
	if many := len(h.onWay()); isMany && many > 0 && s.below(many+9) > 3 {
		return []api.Deed{double(s.below(many)), stand(s.below(len(h.nodes))), beat(h.leading(0)), take(s.below(many))}[s.below(4)]
	}
	return h.something(s, how)
}

// wantFaultByHand plays deeds as they come, up to the first one that has a fault, and tells its code.
func (h *byHand) wantFaultByHand(t *testing.T, s *number, isMany bool) int {
	t.Helper()
	how := anyTemper(s)
	for at := range 300 {
		d := h.anything(s, how, isMany)
		ahead := slices.Clone(h.deeds)
		if code := h.do(d); code != 0 {
			wantRefused(t, "deeds as they come", len(h.nodes), h.texts, append(ahead, d), fault(code, at))
			wantRefused(t, "deeds as they come, and more", len(h.nodes), h.texts, append(ahead, d, h.wrong(s), lose(0)), fault(code, at))
			return code
		}
	}
	h.wantByHand(t)
	return 0
}

// TestFaultsByHand: of deeds as they come, the first one that has a fault is told.
func TestFaultsByHand(t *testing.T) {
	s := number(2)
	seen := map[int]int{}
	for run := range 3000 {
		h := newByHand(1+s.below(api.MaxNodes), anyTexts(&s))
		seen[h.wantFaultByHand(t, &s, run%2 == 0)]++
	}
	for _, code := range []int{0, api.ErrKind, api.ErrRange, api.ErrNone, api.ErrMuch} {
		if seen[code] < 100 {
			t.Errorf("the code %d came %d times, which is little", code, seen[code])
		}
	}
}

// goodByHand: what the document says of Good.
func goodByHand(c api.Clan) ([]string, api.Fault) {
	if len(c.Nodes) > 7 {
		return nil, fault(api.ErrMany, -1)
	}
	most := -1
	for i, x := range c.Nodes {
		if f := raft.Check(x); f.Code != 0 {
			return nil, fault(f.Code, i)
		}
		most = max(most, x.Commit)
	}
	at := slices.IndexFunc(c.Nodes, func(x api.Node) bool { return x.Commit == most })
	var out []string
	for i := range most {
		out = append(out, c.Nodes[at].Log[i].Text)
	}
	return out, api.Fault{}
}

// TestGoodByHand: of what deeds lead to, and of nodes of all kinds.
func TestGoodByHand(t *testing.T) {
	s := number(3)
	var some []api.Node
	for _, w := range wrongNodes() {
		some = append(some, w.x)
	}
	good := 0
	for range 300 {
		h := newByHand(1+s.below(api.MaxNodes), texts(20))
		how := anyTemper(&s)
		for range 200 {
			h.do(h.something(&s, how))
		}
		some = append(some, h.nodes...)
		c := h.clan()
		for range 20 {
			got, f := clan.Good(c)
			want, g := goodByHand(c)
			if !slices.Equal(got, want) || f != g {
				t.Fatalf("Good of %s: %s, %v, want %s, %v", told(c), told(got), f, told(want), g)
			}
			good += len(got)
			c.Nodes = nil
			for range s.below(9) {
				c.Nodes = append(c.Nodes, some[s.below(len(some))])
			}
		}
	}
	if good < 1000 {
		t.Errorf("%d texts are for good, which is little", good)
	}
}
