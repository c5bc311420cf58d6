package raft_test

import (
	"fmt"
	"slices"
	"strconv"
	"testing"

	"tabulary/api"
	"tabulary/raft"
)

// TestExamples: the chapter's own.
func TestExamples(t *testing.T) {
	x, sent, f := raft.Stand(api.Node{N: 1})
	wantFault(t, "Stand", f, api.Fault{})
	if x.Role != 2 || x.Term != 1 || len(sent) > 0 {
		t.Errorf("one node stands: %s, %s", told(x), told(sent))
	}
	x, f = raft.Propose(x, "a")
	wantFault(t, "Propose", f, api.Fault{})
	if x.Commit != 1 || !slices.Equal(x.Log, log{{Term: 1, Text: "a"}}) {
		t.Errorf("a is proposed to one node: %s", told(x))
	}
}

// group is some nodes, what is on its way between them, and all that was seen of them.
type group struct {
	nodes []api.Node
	way   mails
	texts int
	// Who led in a Term, what is for good at a place, and the first Term in which somebody knew that.
	led   map[int]int
	good  map[int]api.Entry
	since map[int]int
}

func newGroup(n int) *group {
	g := &group{led: map[int]int{}, good: map[int]api.Entry{}, since: map[int]int{}}
	for id := range n {
		g.nodes = append(g.nodes, follower(n, id, 0, nil))
	}
	return g
}

// put has a node be what a call answered, unless that has a fault.
func (g *group) put(who int, x api.Node, sent mails, f api.Fault) {
	if f == (api.Fault{}) {
		g.nodes[who] = x
		g.way = append(g.way, sent...)
	}
}

func (g *group) stand(who int) {
	x, sent, f := raft.Stand(g.nodes[who])
	g.put(who, x, sent, f)
}

func (g *group) propose(who int) {
	x, f := raft.Propose(g.nodes[who], "t"+strconv.Itoa(g.texts))
	g.texts++
	g.put(who, x, nil, f)
}

func (g *group) beat(who int) {
	sent, f := raft.Beat(g.nodes[who])
	g.put(who, g.nodes[who], sent, f)
}

func (g *group) restart(who int) {
	x, f := raft.Restart(g.nodes[who])
	g.put(who, x, nil, f)
}

// bring brings the mail of a number, which stays on its way.
func (g *group) bring(n int) {
	m := g.way[n]
	x, sent, f := raft.Take(g.nodes[m.To], m)
	g.put(m.To, x, sent, f)
}

func (g *group) lose(n int) { g.way = slices.Delete(g.way, n, n+1) }

// bringAll brings all mails that are on their way, and those that come of them, until there are none.
func (g *group) bringAll() {
	for len(g.way) > 0 {
		g.bring(0)
		g.lose(0)
	}
}

// look tells what should not be, as the group is now, or nothing.
func (g *group) look() string {
	for _, x := range g.nodes {
		if f := raft.Check(x); f != (api.Fault{}) {
			return fmt.Sprint("a node has the fault ", f)
		}
		if wrong := g.lookAtGood(x); wrong != "" {
			return wrong
		}
		for _, y := range g.nodes {
			if !areOneUpToWhereTheyAgree(x.Log, y.Log) {
				return "two logs agree at a place, and are not the same up to it"
			}
		}
	}
	for _, x := range g.nodes {
		if wrong := g.lookAtLeader(x); wrong != "" {
			return wrong
		}
	}
	return ""
}

// lookAtGood: no two nodes know different things to be for good at a place.
func (g *group) lookAtGood(x api.Node) string {
	for i, e := range x.Log[:x.Commit] {
		was, is := g.good[i+1]
		if is && was != e {
			return fmt.Sprint("for good at ", i+1, " is ", was, ", and ", e)
		}
		if !is || x.Term < g.since[i+1] {
			g.since[i+1] = x.Term
		}
		g.good[i+1] = e
	}
	return ""
}

// lookAtLeader: nobody else leads in its Term, and it has what was known to be for good in an earlier one.
func (g *group) lookAtLeader(x api.Node) string {
	if x.Role != 2 {
		return ""
	}
	if who, is := g.led[x.Term]; is && who != x.ID {
		return fmt.Sprint(who, " and ", x.ID, " lead in the Term ", x.Term)
	}
	g.led[x.Term] = x.ID
	for place, e := range g.good {
		if g.since[place] < x.Term && (len(x.Log) < place || x.Log[place-1] != e) {
			return fmt.Sprint("what is for good at ", place, " does not have ", x.ID, ", which leads")
		}
	}
	return ""
}

func areOneUpToWhereTheyAgree(a, b log) bool {
	at := min(len(a), len(b))
	for at > 0 && a[at-1].Term != b[at-1].Term {
		at--
	}
	return slices.Equal(a[:at], b[:at])
}

// leading: a node that leads, from one on; or that one, if none does.
func (g *group) leading(from int) int {
	for i := range g.nodes {
		if who := (from + i) % len(g.nodes); g.nodes[who].Role == 2 {
			return who
		}
	}
	return from
}

// something happens, that may be lost, doubled, late, or a restart.
func (g *group) something(s *number) {
	who, n := s.below(len(g.nodes)), s.below(max(1, len(g.way)))
	isMail := len(g.way) > 0
	switch kind := s.below(100); {
	case kind < 1:
		g.restart(who)
	case kind < 3:
		g.stand(who)
	case kind < 10:
		g.propose(g.leading(who))
	case kind < 25:
		g.beat(g.leading(who))
	case isMail && kind < 33:
		g.bring(n)
	case isMail && kind < 38 || len(g.way) > 60:
		g.lose(n)
	case isMail:
		// Those that were sent first come first, as a rule.
		n = min(n, s.below(len(g.way)))
		g.bring(n)
		g.lose(n)
	}
}

// TestWhateverHappens: never two lead in one Term, logs that agree are the same, and what is for good stays so.
func TestWhateverHappens(t *testing.T) {
	s := number(11)
	terms, good := 0, 0
	for range 1500 {
		g := newGroup(2 + s.below(4))
		for range 500 {
			g.something(&s)
			if wrong := g.look(); wrong != "" {
				t.Fatalf("%s: %s", wrong, told(g.nodes))
			}
		}
		terms += len(g.led)
		good += len(g.good)
	}
	if terms < 4000 || good < 10000 {
		t.Errorf("in %d Terms somebody leads, and %d entries are for good, which is little", terms, good)
	}
}

// electSomebody has one node after the other stand, until one leads; nothing is lost meanwhile.
func (g *group) electSomebody(t *testing.T) int {
	t.Helper()
	for tries := range 50 {
		who := tries % len(g.nodes)
		// It may not have heard yet that it leads no more.
		g.restart(who)
		g.stand(who)
		g.bringAll()
		if g.nodes[who].Role == 2 {
			return who
		}
	}
	t.Fatalf("nobody comes to lead: %s", told(g.nodes))
	return 0
}

// TestInTheEndAllHaveTheSame: whatever happened, if somebody leads, is proposed to, and beats, and nothing is lost any more, all have its log, and know it to be for good.
func TestInTheEndAllHaveTheSame(t *testing.T) {
	s := number(13)
	for range 300 {
		g := newGroup(1 + s.below(7))
		for range 200 {
			g.something(&s)
		}
		top := g.electSomebody(t)
		g.propose(top)
		for range 40 {
			g.beat(top)
			g.bringAll()
		}
		if wrong := g.look(); wrong != "" {
			t.Fatalf("%s: %s", wrong, told(g.nodes))
		}
		for _, x := range g.nodes {
			if !slices.Equal(x.Log, g.nodes[top].Log) || x.Commit != len(x.Log) || len(x.Log) == 0 {
				t.Fatalf("in the end, %d has %s, and %d, which leads, %s", x.ID, told(x), top, told(g.nodes[top]))
			}
		}
	}
}

// bringTo brings what is on its way to some, in order; what comes of it is put on its way behind that.
func (g *group) bringTo(who ...int) {
	for n, m := range slices.Clone(g.way) {
		if slices.Contains(who, m.To) {
			g.bring(n)
		}
	}
}

// elect has a node stand, up to a Term, in which these nodes hear it.
func (g *group) elect(who, term int, by ...int) {
	g.restart(who)
	for range term - g.nodes[who].Term {
		g.way = nil
		g.stand(who)
	}
	g.bringTo(by...)
	g.bringTo(who)
	g.way = nil
}

// spread has a node beat, and these nodes hear it, until they have all that it has.
func (g *group) spread(from int, to ...int) {
	for range 9 {
		g.beat(from)
		g.bringTo(to...)
		g.bringTo(from)
		g.way = nil
	}
}

// wantTerms: a node's entries have these Terms, and so many are for good.
func (g *group) wantTerms(t *testing.T, who, commit int, terms ...int) {
	t.Helper()
	x := g.nodes[who]
	var got []int
	for _, e := range x.Log {
		got = append(got, e.Term)
	}
	if !slices.Equal(got, terms) || x.Commit != commit {
		t.Fatalf("%d has the Terms %v, %d for good, want %v and %d", who, got, x.Commit, terms, commit)
	}
	if wrong := g.look(); wrong != "" {
		t.Fatal(wrong)
	}
}

// TestAnOldEntryIsNotForGoodByItself: most have it, and yet another one comes to lead, and takes it away.
func TestAnOldEntryIsNotForGoodByItself(t *testing.T) {
	g := newGroup(5)
	g.elect(0, 1, 1, 2)
	g.propose(0)
	g.spread(0, 1)
	g.wantTerms(t, 1, 0, 1)
	g.elect(4, 2, 2, 3)
	g.propose(4)
	g.wantTerms(t, 4, 0, 2)
	g.elect(0, 3, 1, 2)
	g.spread(0, 1, 2)
	g.wantTerms(t, 0, 0, 1)
	g.wantTerms(t, 2, 0, 1)
	g.elect(4, 4, 2, 3)
	g.spread(4, 0, 1, 2, 3)
	g.wantTerms(t, 0, 0, 2)
	g.propose(4)
	g.spread(4, 0, 1)
	g.wantTerms(t, 4, 2, 2, 4)
	g.wantTerms(t, 0, 2, 2, 4)
}

// TestAnOldEntryIsForGoodWithANewOne: behind it, of the Term of the one that leads; then no one without it can lead.
func TestAnOldEntryIsForGoodWithANewOne(t *testing.T) {
	g := newGroup(5)
	g.elect(0, 1, 1, 2)
	g.propose(0)
	g.spread(0, 1)
	g.elect(4, 2, 2, 3)
	g.propose(4)
	g.elect(0, 3, 1, 2)
	g.propose(0)
	g.spread(0, 1, 2)
	g.wantTerms(t, 0, 2, 1, 3)
	g.wantTerms(t, 2, 2, 1, 3)
	g.elect(4, 4, 1, 2, 3)
	if g.nodes[4].Role == 2 {
		t.Error("one without what is for good comes to lead")
	}
}
