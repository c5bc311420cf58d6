package raft_test

import (
	"math"
	"slices"
	"strconv"
	"testing"

	"tabulary/api"
	"tabulary/raft"
)

// rightNodes: such as Check tells nothing of, edges among them.
func rightNodes() []api.Node {
	full, longest := many(api.MaxRecs, 3), slices.Repeat(log{{Term: 2, Text: long(api.MaxValue)}}, api.MaxRecs)
	out := []api.Node{
		follower(1, 0, 0, nil), follower(1, 0, 0, log{}), follower(api.MaxNodes, 0, 0, nil), follower(api.MaxNodes, api.MaxNodes-1, 0, nil),
		follower(3, 0, api.MaxNum, nil), follower(3, 2, 7, of(1, 7)), follower(3, 2, 8, of(1, 7)), follower(3, 1, api.MaxNum, of(1, api.MaxNum)),
		follower(3, 1, 3, full), follower(3, 1, 3, longest), withCommit(follower(3, 1, 3, full), api.MaxRecs), withCommit(follower(3, 1, 3, of(1, 2)), 1),
		but(follower(3, 1, 3, nil), func(x *api.Node) { x.Votes, x.Next, x.Have = []int{}, []int{}, []int{} }),
		candidate(2, 0, 0, nil), candidate(2, 1, 1, nil), candidate(3, 1, 7, of(1, 7)), candidate(4, 3, 2, of(2), 0), candidate(5, 0, 2, nil, 4), candidate(5, 4, 2, nil, 0),
		candidate(6, 2, 2, nil, 5, 0), candidate(api.MaxNodes, 6, 2, nil, 0, 3), candidate(api.MaxNodes, 3, api.MaxNum, full, 0),
		but(candidate(5, 2, 2, nil), func(x *api.Node) { x.Votes = []int{4, 2} }),
		withVote(candidate(3, 1, 2, nil), 0), withVote(candidate(3, 1, 2, nil), 3),
		leader(1, 0, 0, nil), leader(1, 0, 1, of(1)), leader(3, 1, 2, of(1, 1, 2)), leader(api.MaxNodes, 6, 3, full), withVote(leader(3, 1, 2, nil), 0),
		knowing(leader(3, 0, 2, of(1, 2)), 0, 0, 0), knowing(leader(3, 0, 2, of(1, 2)), 2, 2, 2), knowing(leader(3, 0, 2, of(1, 2)), 1, 2, 0),
		but(leader(3, 0, 2, of(1, 2)), func(x *api.Node) { x.Next = []int{1, 1, 1} }), but(leader(3, 0, 2, of(1, 2)), func(x *api.Node) { x.Next = []int{3, 2, 1} }),
	}
	for vote := range api.MaxNodes + 1 {
		out = append(out, withVote(follower(api.MaxNodes, 2, 1, nil), vote))
	}
	return out
}

// wrongNode is one that is none, and what Check says of it.
type wrongNode struct {
	api.Node
	want api.Fault
}

// wrongs: the nodes, each with that fault.
func wrongs(want api.Fault, nodes ...api.Node) []wrongNode {
	var out []wrongNode
	for _, x := range nodes {
		out = append(out, wrongNode{x, want})
	}
	return out
}

// wrongPlaces: N and ID that may not be.
func wrongPlaces() []wrongNode {
	var out []wrongNode
	for _, n := range []int{0, -1, api.MaxNodes + 1, math.MinInt, math.MaxInt} {
		for _, id := range []int{0, -1, n - 1, n} {
			out = append(out, wrongs(fault(api.ErrRange, -1), follower(n, id, 1, nil))...)
		}
	}
	for n := 1; n <= api.MaxNodes; n++ {
		for _, id := range []int{-1, n, n + 1, math.MinInt, math.MaxInt} {
			out = append(out, wrongs(fault(api.ErrRange, -1), follower(n, id, 1, nil))...)
		}
	}
	return out
}

// wrongNumbers: Term, Vote, Role and Commit that may not be.
func wrongNumbers() []wrongNode {
	var all []api.Node
	for _, term := range outside() {
		all = append(all, follower(3, 1, term, nil))
	}
	for n := 1; n <= api.MaxNodes; n++ {
		for _, vote := range []int{-1, n + 1, math.MinInt, math.MaxInt} {
			all = append(all, withVote(follower(n, 0, 1, nil), vote))
		}
	}
	for _, role := range []int{-1, 3, math.MinInt, math.MaxInt} {
		all = append(all, but(follower(3, 1, 1, nil), func(x *api.Node) { x.Role = role }))
	}
	for _, l := range []log{nil, {}, of(1), of(1, 1, 1), many(api.MaxRecs, 1)} {
		for _, commit := range []int{-1, len(l) + 1, math.MinInt, math.MaxInt} {
			all = append(all, withCommit(follower(3, 1, 1, l), commit), withCommit(leader(3, 1, 1, l), commit))
		}
	}
	return wrongs(fault(api.ErrRange, -2), all...)
}

// wrongLogs: such as are none by chapter 11, and such as have a last entry of a Term above the node's.
func wrongLogs() []wrongNode {
	out := []wrongNode{
		{follower(3, 1, 9, many(api.MaxRecs+1, 1)), fault(api.ErrMany, -1)},
		{follower(3, 1, 9, of(0)), fault(api.ErrRange, 0)},
		{follower(3, 1, 9, of(1, -1)), fault(api.ErrRange, 1)},
		{follower(3, 1, api.MaxNum, of(1, 1, api.MaxNum+1)), fault(api.ErrRange, 2)},
		{follower(3, 1, 9, of(2, 1)), fault(api.ErrState, 1)},
		{follower(3, 1, 9, of(1, 1, 3, 2)), fault(api.ErrState, 3)},
		{follower(3, 1, 9, log{{Term: 1}, {Term: 1, Text: long(api.MaxValue + 1)}}), fault(api.ErrSize, 1)},
		{leader(3, 1, 9, of(2, 1)), fault(api.ErrState, 1)},
		{candidate(3, 1, 9, of(0)), fault(api.ErrRange, 0)},
	}
	for _, x := range []api.Node{follower(3, 1, 0, of(1)), follower(3, 1, 6, of(7)), follower(3, 1, 6, of(1, 6, 7)), candidate(3, 1, 6, of(7)), leader(3, 1, 6, of(7)), follower(3, 1, 1, of(1, api.MaxNum))} {
		out = append(out, wrongNode{x, fault(api.ErrState, -3)})
	}
	return out
}

// wrongVotes: Votes that a node of its Role may not have.
func wrongVotes() []wrongNode {
	set := func(x api.Node, votes ...int) api.Node { return but(x, func(x *api.Node) { x.Votes = votes }) }
	return wrongs(fault(api.ErrForm, -3),
		set(follower(3, 1, 1, nil), 1), set(follower(3, 1, 1, nil), 0, 1, 2), set(leader(3, 1, 1, nil), 1), set(leader(1, 0, 1, nil), 0),
		set(candidate(3, 1, 1, nil)), set(candidate(3, 1, 1, nil), 0), set(candidate(5, 1, 1, nil), 0, 2), set(candidate(7, 1, 1, nil), 0, 2, 3),
		set(candidate(5, 1, 1, nil), 1, 1), set(candidate(7, 1, 1, nil), 1, 2, 2), set(candidate(7, 1, 1, nil), 2, 1, 2),
		set(candidate(5, 1, 1, nil), 1, 5), set(candidate(5, 1, 1, nil), 1, -1), set(candidate(5, 1, 1, nil), -1, 1), set(candidate(7, 1, 1, nil), 1, 2, 7), set(candidate(5, 1, 1, nil), 1, math.MaxInt), set(candidate(5, 1, 1, nil), math.MinInt, 1),
		set(candidate(1, 0, 1, nil), 0), set(candidate(1, 0, 1, nil)), set(candidate(2, 0, 1, nil), 0, 1), set(candidate(3, 1, 1, nil), 1, 2), set(candidate(4, 1, 1, nil), 1, 2, 3), set(candidate(5, 1, 1, nil), 1, 0, 4), set(candidate(6, 1, 1, nil), 0, 1, 2, 3),
		set(candidate(7, 1, 1, nil), 0, 1, 2, 3), set(candidate(7, 1, 1, nil), 0, 1, 2, 3, 4, 5, 6), set(candidate(7, 1, 1, nil), slices.Repeat([]int{1}, 5000)...),
	)
}

// wrongKnown: Next and Have that a node of its Role may not have.
func wrongKnown() []wrongNode {
	next := func(x api.Node, l ...int) api.Node { return but(x, func(x *api.Node) { x.Next = l }) }
	have := func(x api.Node, l ...int) api.Node { return but(x, func(x *api.Node) { x.Have = l }) }
	var all []api.Node
	for _, x := range []api.Node{follower(3, 1, 2, of(1, 2)), candidate(3, 1, 2, of(1, 2))} {
		all = append(all, next(x, 1), have(x, 0), next(x, 1, 1, 1), have(x, 0, 0, 0), have(next(x, 1, 1, 1), 0, 0, 0))
	}
	for _, n := range []int{1, 2, 3, api.MaxNodes} {
		x := leader(n, 0, 2, of(1, 2))
		all = append(all, next(x), have(x), have(next(x)), next(x, x.Next[1:]...), have(x, x.Have[1:]...), next(x, append(x.Next, 1)...), have(x, append(x.Have, 0)...))
		for who := range n {
			for _, place := range []int{0, -1, 4, 5, math.MinInt, math.MaxInt} {
				all = append(all, but(x, func(x *api.Node) { x.Next[who] = place }))
			}
			for _, many := range []int{-1, 3, 4, math.MinInt, math.MaxInt} {
				all = append(all, but(x, func(x *api.Node) { x.Have[who] = many }))
			}
		}
	}
	empty := leader(3, 1, 2, nil)
	return wrongs(fault(api.ErrForm, -3), append(all, next(empty, 1, 1, 2), next(empty, 0, 1, 1), have(empty, 0, 0, 1))...)
}

// wrongSeveral: nodes with several faults, of which the first is told.
func wrongSeveral() []wrongNode {
	all := []func(x *api.Node){
		func(x *api.Node) { x.ID = 3 },
		func(x *api.Node) { x.Vote = 4 },
		func(x *api.Node) { x.Log = of(2, 1) },
		func(x *api.Node) { x.Term = 0 },
		func(x *api.Node) { x.Votes = []int{0} },
	}
	wants := []api.Fault{fault(api.ErrRange, -1), fault(api.ErrRange, -2), fault(api.ErrState, 1), fault(api.ErrState, -3), fault(api.ErrForm, -3)}
	var out []wrongNode
	for some := 1; some < 1<<len(all); some++ {
		x, first := follower(3, 1, 1, of(1)), -1
		for i, change := range all {
			if some>>i&1 == 0 {
				continue
			}
			if first < 0 {
				first = i
			}
			change(&x)
		}
		out = append(out, wrongNode{x, wants[first]})
	}
	return append(out,
		wrongNode{follower(0, 0, -1, of(0)), fault(api.ErrRange, -1)},
		wrongNode{withCommit(follower(3, 1, 1, many(api.MaxRecs+1, 0)), 102), fault(api.ErrRange, -2)},
		wrongNode{withCommit(follower(3, 1, 1, many(api.MaxRecs+1, 0)), 101), fault(api.ErrMany, -1)},
		wrongNode{follower(3, 1, 1, of(0, 5)), fault(api.ErrRange, 0)},
	)
}

func wrongNodes() []wrongNode {
	return slices.Concat(wrongPlaces(), wrongNumbers(), wrongLogs(), wrongVotes(), wrongKnown(), wrongSeveral())
}

func TestCheckOfWhatIsFine(t *testing.T) {
	for i, x := range rightNodes() {
		wantFault(t, "Check of right node "+strconv.Itoa(i), raft.Check(x), api.Fault{})
		wantFault(t, "Check by hand of right node "+strconv.Itoa(i), checkByHand(x), api.Fault{})
	}
}

func TestCheckOfWhatIsNone(t *testing.T) {
	for _, x := range wrongNodes() {
		wantFault(t, "Check of "+told(x.Node), raft.Check(x.Node), x.want)
		wantFault(t, "Check by hand of "+told(x.Node), checkByHand(x.Node), x.want)
	}
}

// TestAllTellFirstWhatCheckSays: ahead of their own faults, whatever they are given beside the node.
func TestAllTellFirstWhatCheckSays(t *testing.T) {
	for _, x := range wrongNodes() {
		wantNoStand(t, "a wrong node", x.Node, x.want)
		wantNoBeat(t, "a wrong node", x.Node, x.want)
		for _, text := range []string{"a", long(api.MaxValue + 1)} {
			wantNotProposed(t, "a wrong node", x.Node, text, x.want)
		}
		for _, m := range []api.Mail{{}, asks(0, x.ID, 5, 0, 0), votes(0, x.ID, 5, true), brings(2, x.ID, 9, 0, 0, 0, nil), says(2, x.ID, 5, false, 0)} {
			wantNotTaken(t, "a mail to a wrong node", x.Node, m, x.want)
		}
		got, f := raft.Restart(x.Node)
		wantNothing(t, "Restart of a wrong node", got, nil, f, x.want)
	}
}
