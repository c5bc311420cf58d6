package clan_test

import (
	"fmt"
	"math"
	"slices"
	"testing"

	"tabulary/api"
	"tabulary/clan"
)

// numbersOfAllKinds: edges, and far beyond them.
func numbersOfAllKinds() []int {
	return []int{math.MinInt, math.MinInt + 1, -1000000, -2, -1, 0, 1, 2, 3, 4, 5, 6, 7, 8, 199, 200, 201, api.MaxNum, api.MaxNum + 1, math.MaxInt - 1, math.MaxInt}
}

// textsOfAllKinds: none, some, too many, and too long.
func textsOfAllKinds() [][]string {
	return [][]string{nil, {}, {""}, {"a", "", "\xff"}, texts(api.MaxRecs), texts(api.MaxRecs + 1), texts(9000), {"a", long(api.MaxValue)}, {"a", long(api.MaxValue + 1)}, {long(100000)}}
}

// calls: what Play answers, and Good of that.
func calls(n int, texts []string, s script) string {
	c, f := clan.Play(n, texts, s)
	good, g := clan.Good(c)
	return fmt.Sprintln(c, f, good, g)
}

// TestNoScriptPanics: deeds of all kinds, behind none and behind others; and twice the same is answered.
func TestNoScriptPanics(t *testing.T) {
	numbers := numbersOfAllKinds()
	some := []string{"a", "b", "c"}
	for _, kind := range numbers {
		for _, who := range numbers {
			for _, n := range numbers {
				d := api.Deed{Kind: kind, Who: who, N: n}
				for _, s := range []script{{d}, append(begun(), d, d, d)} {
					if first, then := calls(3, some, s), calls(3, some, s); first != then {
						t.Errorf("of %v is answered %s, then %s", s, first, then)
					}
				}
			}
		}
	}
	for _, n := range numbers {
		for _, l := range textsOfAllKinds() {
			for _, s := range []script{nil, begun(), make(script, api.MaxOps), make(script, 5000)} {
				if first, then := calls(n, l, s), calls(n, l, s); first != then {
					t.Errorf("of %d nodes and %d texts is answered %.300s, then %.300s", n, len(l), first, then)
				}
			}
		}
	}
}

// nodesOfAllKinds: right and wrong ones, and such as are far off.
func nodesOfAllKinds() []api.Node {
	out := append(fresh(3), leader(1, 1, of(1, "a"), 1, 0, 1, 0), candidate(5, 2, 7, 1), knows(0, 2, "a", "b"))
	for _, w := range wrongNodes() {
		out = append(out, w.x)
	}
	for _, n := range numbersOfAllKinds() {
		out = append(out, api.Node{N: n}, api.Node{N: 3, ID: n}, api.Node{N: 3, Term: n}, api.Node{N: 3, Vote: n}, api.Node{N: 3, Role: n}, api.Node{N: 3, Commit: n},
			api.Node{N: 3, Term: 1, Log: of(n, "a")}, api.Node{N: 3, Role: 1, Votes: []int{0, n}}, api.Node{N: 1, Role: 2, Next: []int{n}, Have: []int{0}}, api.Node{N: 1, Role: 2, Next: []int{1}, Have: []int{n}})
	}
	return append(out, api.Node{N: 3, Term: 9, Log: of(1, texts(9000)...), Commit: 9000})
}

// TestNoClanPanics: Good of nodes of all kinds, and twice the same is answered.
func TestNoClanPanics(t *testing.T) {
	all := nodesOfAllKinds()
	for i, x := range all {
		for many := 1; many <= api.MaxNodes+1; many++ {
			nodes := slices.Repeat([]api.Node{knows(0, 1, "a")}, many)
			nodes[i%many] = x
			nodes[many/2] = all[(i*7)%len(all)]
			first, f := clan.Good(clanOf(nodes...))
			then, g := clan.Good(clanOf(nodes...))
			if !slices.Equal(first, then) || f != g {
				t.Errorf("Good of %s: %s, %v, then %s, %v", told(nodes), told(first), f, told(then), g)
			}
		}
	}
}

// TestNilIsEmpty: a list without elements is the same either way.
func TestNilIsEmpty(t *testing.T) {
	for n := range api.MaxNodes + 2 {
		for _, s := range []script{nil, {}, {stand(0)}, {propose(0)}} {
			if first, then := calls(n, nil, s), calls(n, []string{}, s); first != then {
				t.Errorf("of no texts is answered %s, of an empty list %s", first, then)
			}
		}
		if first, then := calls(n, []string{"a"}, nil), calls(n, []string{"a"}, script{}); first != then {
			t.Errorf("of no deeds is answered %s, of an empty list %s", first, then)
		}
	}
	x, y := follower(3, 0, 1, 0, nil, 0), follower(3, 0, 1, 0, log{}, 0)
	y.Votes, y.Next, y.Have = []int{}, []int{}, []int{}
	wantGood(t, "nodes without lists", clanOf(x, knows(1, 1, "a")), "a")
	wantGood(t, "nodes with empty lists", clanOf(y, knows(1, 1, "a")), "a")
}

// roomy: a list with more behind its length.
func roomy[T any](l []T, behind ...T) []T { return slices.Concat(l, behind)[:len(l)] }

// anyStory: a clan of some nodes, behind deeds as they come.
func anyStory(s *number) *byHand {
	h := newByHand(1+s.below(api.MaxNodes), anyTexts(s))
	how := anyTemper(s)
	for range s.below(150) {
		h.do(h.something(s, how))
	}
	return h
}

// TestArgumentsStay: nothing that Play is given is written to, nor what lies behind its length; and that is not read.
func TestArgumentsStay(t *testing.T) {
	s := number(7)
	for range 300 {
		h := anyStory(&s)
		n, wasTexts, wasDeeds := len(h.nodes), slices.Clone(h.texts), slices.Clone(h.deeds)
		all, deeds := roomy(h.texts, "behind", "too"), roomy(h.deeds, stand(0), api.Deed{Kind: 9})
		if full, alone := calls(n, all, deeds), calls(n, slices.Clip(h.texts), slices.Clip(h.deeds)); full != alone {
			t.Fatalf("with room behind is answered %s, alone %s", full, alone)
		}
		if !slices.Equal(all[:len(all)+2], append(wasTexts, "behind", "too")) || !slices.Equal(deeds[:len(deeds)+2], append(wasDeeds, stand(0), api.Deed{Kind: 9})) {
			t.Fatalf("of %v, what was handed in is changed", wasDeeds)
		}
	}
}

// roomyClan: a clan whose lists have more behind their lengths, all of which would count.
func roomyClan(c api.Clan) api.Clan {
	out := api.Clan{Way: roomy(c.Way, api.Mail{Kind: 9}, api.Mail{})}
	for _, x := range c.Nodes {
		x.Log = roomy(x.Log, api.Entry{Term: max(1, x.Term), Text: "behind"}, api.Entry{Term: -1})
		x.Votes, x.Next, x.Have = roomy(x.Votes, 0, 99), roomy(x.Next, 1, 99), roomy(x.Have, 0, 99)
		out.Nodes = append(out.Nodes, x)
	}
	out.Nodes = roomy(out.Nodes, knows(0, 2, "y", "z"), api.Node{N: -1})
	return out
}

// wholeClan: a roomy clan, with all that lies behind its lists.
func wholeClan(c api.Clan) string {
	c.Way = c.Way[:len(c.Way)+2]
	nodes := slices.Clone(c.Nodes[:len(c.Nodes)+2])
	for i := range c.Nodes {
		x := &nodes[i]
		x.Log, x.Votes, x.Next, x.Have = x.Log[:len(x.Log)+2], x.Votes[:len(x.Votes)+2], x.Next[:len(x.Next)+2], x.Have[:len(x.Have)+2]
	}
	return fmt.Sprint(nodes, c.Way)
}

// TestClansStay: the same of Good.
func TestClansStay(t *testing.T) {
	s := number(8)
	for range 300 {
		c := anyStory(&s).clan()
		full := roomyClan(c)
		was := wholeClan(full)
		want, g := clan.Good(c)
		got, f := clan.Good(full)
		if !slices.Equal(got, want) || f != g {
			t.Fatalf("with room behind, Good of %s: %s, %v, alone %s, %v", told(c), told(got), f, told(want), g)
		}
		fill(got, "changed")
		if is := wholeClan(full); is != was {
			t.Fatalf("%s is changed to %s", was, is)
		}
	}
}

// fill writes to all memory of a list, also behind its length.
func fill[T any](l []T, with T) {
	l = l[:cap(l)]
	for i := range l {
		l[i] = with
	}
}

// isFull tells whether all memory of a list is what it was filled with.
func isFull[T comparable](l []T, with T) bool {
	return !slices.ContainsFunc(l[:cap(l)], func(x T) bool { return x != with })
}

// listsOf: all lists of entries, and of numbers, of a clan.
func listsOf(c api.Clan) (logs []log, numbers [][]int) {
	for _, x := range c.Nodes {
		logs = append(logs, x.Log)
		numbers = append(numbers, x.Votes, x.Next, x.Have)
	}
	for _, m := range c.Way {
		logs = append(logs, m.Entries)
	}
	return logs, numbers
}

// wantApart: no two lists of a clan share memory. It tells how many there are that have some.
func wantApart(t *testing.T, c api.Clan) int {
	t.Helper()
	logs, numbers := listsOf(c)
	many := 0
	for i, l := range logs {
		many += min(1, len(l))
		fill(l, api.Entry{Term: i})
	}
	for i, l := range numbers {
		fill(l, i)
	}
	for i, l := range logs {
		if !isFull(l, api.Entry{Term: i}) {
			t.Fatalf("the entries %d of an answer share memory with others", i)
		}
	}
	for i, l := range numbers {
		if !isFull(l, i) {
			t.Fatalf("the numbers %d of an answer share memory with others", i)
		}
	}
	fill(c.Nodes, api.Node{})
	fill(c.Way, api.Mail{})
	return many
}

// TestClansAreNewMemory: no two lists of one share any, nor any with what was handed in, nor with another answer.
func TestClansAreNewMemory(t *testing.T) {
	s := number(9)
	many := 0
	for range 500 {
		h := anyStory(&s)
		n, want := len(h.nodes), calls(len(h.nodes), h.texts, h.deeds)
		wasTexts, wasDeeds := slices.Clone(h.texts), slices.Clone(h.deeds)
		kept := mustPlay(t, n, h.texts, h.deeds)
		many += wantApart(t, mustPlay(t, n, h.texts, h.deeds))
		if !slices.Equal(h.texts, wasTexts) || !slices.Equal(h.deeds, wasDeeds) {
			t.Fatal("what was handed in changes with an answer")
		}
		fill(h.texts, "changed")
		fill(h.deeds, api.Deed{Kind: 9})
		good, f := clan.Good(kept)
		if got := fmt.Sprintln(kept, api.Fault{}, good, f); got != want {
			t.Fatalf("an answer changes with another one, or with what was handed in: %s, want %s", got, want)
		}
	}
	if many < 500 {
		t.Errorf("%d lists of entries alone were looked at", many)
	}
}

// TestDoublesAreNewMemory: a mail and its doubles, each with entries of its own, and so is the log of who took one.
func TestDoublesAreNewMemory(t *testing.T) {
	s := script{stand(0), take(0), take(0), lose(0), propose(0), propose(0), beat(0), double(0), double(0), double(2), take(1)}
	c := mustPlay(t, 2, []string{"a", "b"}, s)
	if many := wantApart(t, c); many != 5 {
		t.Errorf("%d lists have entries, want two logs and three mails", many)
	}
}

// TestGoodIsNewMemory: a change to what Good tells does not change the clan, nor the other way round.
func TestGoodIsNewMemory(t *testing.T) {
	c := clanOf(knows(0, 2, "a", "b", "c"), knows(1, 1, "a"))
	first, _ := clan.Good(c)
	then, _ := clan.Good(c)
	fill(first, "changed")
	fill(c.Nodes[0].Log, api.Entry{})
	if !slices.Equal(then, []string{"a", "b"}) || !slices.Equal(c.Nodes[1].Log, of(1, "a")) {
		t.Errorf("what Good tells changes with something else: %v, %v", then, c.Nodes)
	}
}
