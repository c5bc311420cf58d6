package clan_test

import (
	"slices"
	"strconv"
	"testing"

	"tabulary/api"
	"tabulary/raft"
)

// knows: a node of seven that follows, with these texts, of which so many are known to be for good.
func knows(id, commit int, texts ...string) api.Node {
	return follower(api.MaxNodes, id, 1, 0, of(1, texts...), commit)
}

func clanOf(nodes ...api.Node) api.Clan { return api.Clan{Nodes: nodes} }

func TestGoodOfNoNode(t *testing.T) {
	wantGood(t, "nothing", api.Clan{})
	wantGood(t, "an empty list", api.Clan{Nodes: []api.Node{}, Way: mails{}})
	wantGood(t, "mails alone", api.Clan{Way: mails{brings(0, 1, 1, 0, 0, 1, of(1, "a"))}})
}

// TestGoodOfOne: up to its Commit, whatever stands behind that.
func TestGoodOfOne(t *testing.T) {
	some := []string{"a", "", "b", "a", long(api.MaxValue)}
	for n := range len(some) + 1 {
		wantGood(t, "one node", clanOf(knows(0, n, some...)), some[:n]...)
		wantGood(t, "one that has no more", clanOf(knows(0, n, some[:n]...)), some[:n]...)
	}
	most := texts(api.MaxRecs)
	wantGood(t, "MaxRecs texts", clanOf(knows(6, api.MaxRecs, most...)), most...)
	wantGood(t, "all but the last text", clanOf(knows(6, api.MaxRecs-1, most...)), most[:api.MaxRecs-1]...)
}

// TestGoodOfAnyRole: whether it follows, stands or leads.
func TestGoodOfAnyRole(t *testing.T) {
	l := of(2, "a", "b")
	stands := candidate(3, 1, 4, 1)
	stands.Votes, stands.Log, stands.Commit = []int{1}, l, 1
	wantGood(t, "one that stands", clanOf(stands), "a")
	wantGood(t, "one that leads", clanOf(leader(2, 3, l, 2, 1, 0, 2)), "a", "b")
	wantGood(t, "one that leads, and one that stands", clanOf(stands, leader(2, 3, of(1, "x", "y"), 2, 1, 0, 2)), "x", "y")
}

// TestGoodOfSeveral: the greatest Commit counts, not how many entries there are, and of those that are the same the first.
func TestGoodOfSeveral(t *testing.T) {
	one, two, three := knows(0, 1, "a", "b", "c", "d"), knows(1, 2, "e", "f", "g"), knows(2, 3, "h", "i", "j")
	none := knows(3, 0, "k", "l", "m", "n", "o")
	for _, c := range []struct {
		what  string
		nodes []api.Node
		want  []string
	}{
		{"greater first", []api.Node{three, two, one, none}, []string{"h", "i", "j"}},
		{"greater last", []api.Node{none, one, two, three}, []string{"h", "i", "j"}},
		{"greater in the middle", []api.Node{one, three, none, two}, []string{"h", "i", "j"}},
		{"two, greater first", []api.Node{two, one}, []string{"e", "f"}},
		{"two, greater last", []api.Node{one, two}, []string{"e", "f"}},
		{"none that knows something", []api.Node{none, knows(4, 0), none}, nil},
		{"the same, of two", []api.Node{two, knows(5, 2, "x", "y", "z")}, []string{"e", "f"}},
		{"the same, of two, the other way round", []api.Node{knows(5, 2, "x", "y", "z"), two}, []string{"x", "y"}},
		{"the same, behind less", []api.Node{none, one, two, knows(5, 2, "x", "y")}, []string{"e", "f"}},
		{"the same, ahead of more", []api.Node{two, knows(5, 2, "x", "y"), three}, []string{"h", "i", "j"}},
		{"the same, of all", []api.Node{knows(0, 1, "p"), knows(1, 1, "q"), knows(2, 1, "r")}, []string{"p"}},
	} {
		wantGood(t, c.what, clanOf(c.nodes...), c.want...)
	}
}

// TestGoodOfMaxNodes: and of one more; the greatest Commit may be that of each one.
func TestGoodOfMaxNodes(t *testing.T) {
	for best := range api.MaxNodes {
		var nodes []api.Node
		for id := range api.MaxNodes {
			nodes = append(nodes, knows(id, 1, "n"+strconv.Itoa(id), "m"))
		}
		nodes[best].Commit = 2
		wantGood(t, "MaxNodes nodes", clanOf(nodes...), "n"+strconv.Itoa(best), "m")
		wantNotGood(t, "one node too many", clanOf(append(nodes, nodes[best])...), fault(api.ErrMany, -1))
		wantGood(t, "MaxNodes nodes ahead of one that lies behind", clanOf(append(nodes, knows(0, 9))[:api.MaxNodes]...), "n"+strconv.Itoa(best), "m")
	}
	wantNotGood(t, "one too many, none of which is a node", api.Clan{Nodes: make([]api.Node, api.MaxNodes+1)}, fault(api.ErrMany, -1))
	wantNotGood(t, "far too many", api.Clan{Nodes: make([]api.Node, 5000)}, fault(api.ErrMany, -1))
}

// TestGoodOfNodesThatDoNotGoTogether: each is one by itself, and nothing more is asked of it, nor of the mails.
func TestGoodOfNodesThatDoNotGoTogether(t *testing.T) {
	nodes := []api.Node{leader(0, 1, of(1, "a"), 1, 1, 0, 0), leader(0, 1, of(1, "b", "c"), 2, 2), follower(5, 4, 9, 5, of(3, "d"), 1)}
	wantGood(t, "nodes of several clans", clanOf(nodes...), "b", "c")
	wrong := mails{{}, {Kind: 9, From: -1, To: 99, Entries: log{{Term: -1}}}}
	wantGood(t, "nodes, and mails that are none", api.Clan{Nodes: nodes, Way: slices.Repeat(wrong, 500)}, "b", "c")
}

// wrongNode: one that is none, and the code of what Check says of it.
type wrongNode struct {
	what string
	x    api.Node
	code int
}

func wrongNodes() []wrongNode {
	x, stands, leads := knows(1, 1, "a", "b"), candidate(3, 1, 1), leader(1, 1, of(1, "a"), 0, 0, 1, 0)
	but := func(x api.Node, change func(x *api.Node)) api.Node { change(&x); return x }
	return []wrongNode{
		{"of no nodes", api.Node{}, api.ErrRange},
		{"of too many nodes", but(x, func(x *api.Node) { x.N = api.MaxNodes + 1 }), api.ErrRange},
		{"of another number", but(x, func(x *api.Node) { x.ID = x.N }), api.ErrRange},
		{"of a number below 0", but(x, func(x *api.Node) { x.ID = -1 }), api.ErrRange},
		{"in no Term", but(x, func(x *api.Node) { x.Term = -1 }), api.ErrRange},
		{"with a wrong Vote", but(x, func(x *api.Node) { x.Vote = x.N + 1 }), api.ErrRange},
		{"with a wrong Role", but(x, func(x *api.Node) { x.Role = 3 }), api.ErrRange},
		{"with a Commit above its entries", but(x, func(x *api.Node) { x.Commit = 3 }), api.ErrRange},
		{"with a Commit far above its entries", but(x, func(x *api.Node) { x.Commit = 1 << 62 }), api.ErrRange},
		{"with a Commit below 0", but(x, func(x *api.Node) { x.Commit = -1 }), api.ErrRange},
		{"with too many entries", but(x, func(x *api.Node) { x.Log = of(1, texts(api.MaxRecs+1)...) }), api.ErrMany},
		{"with an entry of no Term", but(x, func(x *api.Node) { x.Log = of(0, "a", "b") }), api.ErrRange},
		{"with Terms that fall", but(x, func(x *api.Node) { x.Log = log{{Term: 2}, {Term: 1}} }), api.ErrState},
		{"with a text that is too long", but(x, func(x *api.Node) { x.Log = of(1, "a", long(api.MaxValue+1)) }), api.ErrSize},
		{"with an entry of a later Term", but(x, func(x *api.Node) { x.Log = of(2, "a") }), api.ErrState},
		{"that follows with Votes", but(x, func(x *api.Node) { x.Votes = []int{1} }), api.ErrForm},
		{"that follows with Have", but(x, func(x *api.Node) { x.Have = make([]int, x.N) }), api.ErrForm},
		{"that stands without Votes", but(stands, func(x *api.Node) { x.Votes = nil }), api.ErrForm},
		{"that stands with most Votes", but(stands, func(x *api.Node) { x.Votes = []int{1, 0} }), api.ErrForm},
		{"that leads without Next", but(leads, func(x *api.Node) { x.Next = nil }), api.ErrForm},
		{"that leads with a Have above its entries", but(leads, func(x *api.Node) { x.Have = []int{2, 1, 0} }), api.ErrForm},
	}
}

// TestGoodOfWrongNodes: their number is told, whatever At Check tells.
func TestGoodOfWrongNodes(t *testing.T) {
	codes := map[int]int{}
	for _, w := range wrongNodes() {
		if f := raft.Check(w.x); f.Code != w.code {
			t.Fatalf("Check of a node %s: %v, want the code %d", w.what, f, w.code)
		}
		codes[w.code]++
		for many := 1; many <= api.MaxNodes; many++ {
			for at := range many {
				nodes := slices.Repeat([]api.Node{knows(0, 2, "a", "b", "c")}, many)
				nodes[at] = w.x
				wantNotGood(t, "a node "+w.what, clanOf(nodes...), fault(w.code, at))
			}
		}
		wantNotGood(t, "one too many, one of them "+w.what, clanOf(append(fresh(api.MaxNodes), w.x)...), fault(api.ErrMany, -1))
	}
	for _, code := range []int{api.ErrRange, api.ErrMany, api.ErrState, api.ErrSize, api.ErrForm} {
		if codes[code] == 0 {
			t.Errorf("no node is wrong with the code %d", code)
		}
	}
}

// TestGoodTellsTheFirstWrongNode: whatever is wrong behind it.
func TestGoodTellsTheFirstWrongNode(t *testing.T) {
	right := knows(0, 1, "a")
	for _, a := range wrongNodes() {
		for _, b := range wrongNodes() {
			wantNotGood(t, "two nodes, "+a.what+" and "+b.what, clanOf(a.x, b.x), fault(a.code, 0))
			wantNotGood(t, "some nodes, "+a.what+" and "+b.what, clanOf(right, right, a.x, right, b.x), fault(a.code, 2))
		}
	}
}
