package clan_test

import (
	"slices"
	"testing"

	"tabulary/api"
)

// TestPlayOfNothing: clans of each size, to which nothing has happened.
func TestPlayOfNothing(t *testing.T) {
	for n := 1; n <= api.MaxNodes; n++ {
		want := api.Clan{Nodes: fresh(n)}
		wantClan(t, "nothing", n, nil, nil, want)
		wantClan(t, "nothing, with texts to propose", n, texts(api.MaxRecs), script{}, want)
		wantClan(t, "an empty script with deeds behind it", n, []string{"a"}, script{stand(0)}[:0], want)
	}
}

func TestPlayOfStanding(t *testing.T) {
	wantClan(t, "one that stands alone", 1, nil, script{stand(0)}, api.Clan{Nodes: []api.Node{leader(0, 1, nil, 0, 0)}})
	for who := range 3 {
		nodes, others := fresh(3), slices.Delete([]int{0, 1, 2}, who, who+1)
		nodes[who] = candidate(3, who, 1)
		way := mails{asks(who, others[0], 1, 0, 0), asks(who, others[1], 1, 0, 0)}
		wantClan(t, "one of three that stands", 3, nil, script{stand(who)}, api.Clan{Nodes: nodes, Way: way})
		nodes[who] = candidate(3, who, 2)
		way = append(way, asks(who, others[0], 2, 0, 0), asks(who, others[1], 2, 0, 0))
		wantClan(t, "one of three that stands twice", 3, nil, times(2, stand(who)), api.Clan{Nodes: nodes, Way: way})
	}
	all := api.Clan{
		Nodes: []api.Node{candidate(3, 0, 1), candidate(3, 1, 1), candidate(3, 2, 1)},
		Way:   mails{asks(2, 0, 1, 0, 0), asks(2, 1, 1, 0, 0), asks(0, 1, 1, 0, 0), asks(0, 2, 1, 0, 0), asks(1, 0, 1, 0, 0), asks(1, 2, 1, 0, 0)},
	}
	wantClan(t, "all that stand, in the order in which they do", 3, nil, script{stand(2), stand(0), stand(1)}, all)
}

// elected: of three, 0 comes to lead in the Term 1, by the vote of 1; what it asked 2 for, and brings both, is on its way.
func elected() script { return script{stand(0), take(0), take(1)} }

func electedClan() api.Clan {
	lead := leader(0, 1, nil, 0, 0, 0, 0)
	return api.Clan{
		Nodes: []api.Node{lead, follower(3, 1, 1, 1, nil, 0), follower(3, 2, 0, 0, nil, 0)},
		Way:   mails{asks(0, 2, 1, 0, 0), brings(0, 1, 1, 0, 0, 0, nil), brings(0, 2, 1, 0, 0, 0, nil)},
	}
}

// wantNothingHappens: a deed changes nothing, wherever it stands behind others.
func wantNothingHappens(t *testing.T, what string, n int, texts []string, ahead script, d api.Deed) {
	t.Helper()
	want := mustPlay(t, n, texts, ahead)
	wantClan(t, what, n, texts, inTurn(ahead, script{d}), want)
	wantClan(t, what+", thrice", n, texts, inTurn(ahead, times(3, d)), want)
}

func TestPlayOfAnElection(t *testing.T) {
	wantClan(t, "an election", 3, nil, elected(), electedClan())
}

// TestPlayOfWhatCannotBe: chapter 12 tells a fault, and nothing happens.
func TestPlayOfWhatCannotBe(t *testing.T) {
	some := []string{"a", "b"}
	wantNothingHappens(t, "one that stands, and leads", 3, some, elected(), stand(0))
	wantNothingHappens(t, "one that stands, and leads alone", 1, some, script{stand(0), propose(0)}, stand(0))
	for _, who := range []int{1, 2} {
		wantNothingHappens(t, "a text to one that follows", 3, some, elected(), propose(who))
		wantNothingHappens(t, "one that beats, and follows", 3, some, elected(), beat(who))
	}
	for who := range 3 {
		wantNothingHappens(t, "a text to one that nothing happened to", 3, some, nil, propose(who))
		wantNothingHappens(t, "one that beats, and nothing happened to", 3, some, nil, beat(who))
		wantNothingHappens(t, "a text to one that stands", 3, some, script{stand(who)}, propose(who))
		wantNothingHappens(t, "one that beats, and stands", 3, some, script{stand(who)}, beat(who))
	}
	for _, text := range []string{long(api.MaxValue + 1), long(10000)} {
		wantNothingHappens(t, "a text that is too long", 3, []string{text, "b"}, elected(), propose(0))
		wantNothingHappens(t, "a text that is too long, behind another one", 1, []string{"a", text}, script{stand(0), propose(0)}, propose(0))
	}
}

// wantLog: behind deeds a node has these texts.
func wantLog(t *testing.T, what string, n int, texts []string, s script, who int, want ...string) {
	t.Helper()
	var got []string
	for _, e := range mustPlay(t, n, texts, s).Nodes[who].Log {
		got = append(got, e.Text)
	}
	if !slices.Equal(got, want) {
		t.Errorf("%s: %d has %s, want %s", what, who, told(got), told(want))
	}
}

func TestPlayOfProposing(t *testing.T) {
	some := []string{"a", "", "b", "a"}
	for n := range len(some) + 1 {
		have := leader(0, 1, of(1, some[:n]...), n, n)
		wantClan(t, "texts that are proposed to one that leads alone", 1, some, inTurn(script{stand(0)}, times(n, propose(0))), api.Clan{Nodes: []api.Node{have}})
		want := electedClan()
		want.Nodes[0] = leader(0, 1, of(1, some[:n]...), 0, n, 0, 0)
		want.Nodes[0].Next[1], want.Nodes[0].Next[2] = 1, 1
		wantClan(t, "texts that are proposed to one of three that leads", 3, some, inTurn(elected(), times(n, propose(0))), want)
	}
	most := texts(api.MaxRecs)
	wantLog(t, "MaxRecs texts", 1, most, inTurn(script{stand(0)}, times(api.MaxRecs, propose(0))), 0, most...)
	wantLog(t, "a text of MaxValue bytes", 1, []string{long(api.MaxValue)}, script{stand(0), propose(0)}, 0, long(api.MaxValue))
}

// TestATextThatIsNotTakenStaysTheNextOne: whoever does not take it, and why.
func TestATextThatIsNotTakenStaysTheNextOne(t *testing.T) {
	some := []string{"a", "b", "c"}
	wantLog(t, "texts to one that leads later", 1, some, inTurn(times(5, propose(0)), script{stand(0), propose(0), propose(0)}), 0, "a", "b")
	wantLog(t, "texts to others in between", 3, some, inTurn(elected(), script{propose(1), propose(0), propose(2), propose(1), propose(0), propose(2), propose(0)}), 0, "a", "b", "c")
	wantLog(t, "a text to one that was restarted", 1, some, script{stand(0), propose(0), restart(0), propose(0), stand(0), propose(0)}, 0, "a", "b")
	wantLog(t, "texts behind one that is too long", 1, []string{"a", long(api.MaxValue + 1), "c"}, inTurn(script{stand(0)}, times(9, propose(0))), 0, "a")
	wantLog(t, "texts in two Terms", 3, some, inTurn(elected(), script{propose(0), lose(0), lose(0), lose(0), stand(1), take(1), take(1), propose(1)}), 1, "b")
	// As long as one is left, no proposal is one too many.
	wantFine(t, "the last text, to others", 3, some[:1], inTurn(elected(), times(9, propose(1)), script{propose(0)}))
}

func TestPlayOfBeating(t *testing.T) {
	some := texts(8)
	want := electedClan()
	first, behind := of(1, some[:5]...), of(1, some...)
	for _, c := range []struct {
		many int
		l    log
	}{{0, nil}, {1, of(1, some[0])}, {5, first}, {8, first}} {
		way := append(slices.Clone(want.Way), brings(0, 1, 1, 0, 0, 0, c.l), brings(0, 2, 1, 0, 0, 0, c.l))
		wantWay(t, "one that beats", 3, some, inTurn(elected(), times(c.many, propose(0)), script{beat(0)}), way...)
		way = append(way, way[len(way)-2:]...)
		wantWay(t, "one that beats twice", 3, some, inTurn(elected(), times(c.many, propose(0)), times(2, beat(0))), way...)
	}
	s := inTurn(elected(), times(3, lose(0)), times(8, propose(0)), script{beat(0), take(0), take(1), beat(0)})
	lead := leader(0, 1, behind, 5, 8, 5, 0)
	wantClan(t, "one that beats, and knows what 1 has", 3, some, s, api.Clan{
		Nodes: []api.Node{lead, follower(3, 1, 1, 1, first, 0), follower(3, 2, 0, 0, nil, 0)},
		Way:   mails{brings(0, 2, 1, 0, 0, 0, first), brings(0, 1, 1, 5, 1, 5, behind[5:]), brings(0, 2, 1, 0, 0, 5, first)},
	})
	wantWay(t, "one that beats, alone", 1, some, script{stand(0), propose(0), beat(0)})
}

// asked: of four, 3 asks all others for their votes.
func asked() script { return script{stand(3)} }

// TestPlayOfTaking: the others stay in their order, and what is answered stands behind them.
func TestPlayOfTaking(t *testing.T) {
	way := mails{asks(3, 0, 1, 0, 0), asks(3, 1, 1, 0, 0), asks(3, 2, 1, 0, 0)}
	for n := range 3 {
		nodes := fresh(4)
		nodes[3], nodes[n] = candidate(4, 3, 1), follower(4, n, 1, 4, nil, 0)
		left := append(slices.Delete(slices.Clone(way), n, n+1), votes(n, 3, 1, true))
		wantClan(t, "a mail that is taken", 4, nil, append(asked(), take(n)), api.Clan{Nodes: nodes, Way: left})
	}
	for _, c := range []struct {
		s   script
		who [3]int
	}{
		{script{take(0), take(0), take(0)}, [3]int{0, 1, 2}}, {script{take(0), take(1), take(0)}, [3]int{0, 2, 1}}, {script{take(1), take(0), take(0)}, [3]int{1, 0, 2}},
		{script{take(1), take(1), take(0)}, [3]int{1, 2, 0}}, {script{take(2), take(0), take(0)}, [3]int{2, 0, 1}}, {script{take(2), take(1), take(0)}, [3]int{2, 1, 0}},
	} {
		var left mails
		for _, who := range c.who {
			left = append(left, votes(who, 3, 1, true))
		}
		wantWay(t, "all mails, in any order", 4, nil, inTurn(asked(), c.s), left...)
	}
}

// TestPlayOfMailsWithoutAnAnswer: of votes that are not most, of those that come late, and of what says how many a node has.
func TestPlayOfMailsWithoutAnAnswer(t *testing.T) {
	nodes := []api.Node{follower(4, 0, 1, 4, nil, 0), follower(4, 1, 0, 0, nil, 0), follower(4, 2, 0, 0, nil, 0), candidate(4, 3, 1, 0)}
	left := mails{asks(3, 1, 1, 0, 0), asks(3, 2, 1, 0, 0)}
	wantClan(t, "the first vote of two that are needed", 4, nil, append(asked(), take(0), take(2)), api.Clan{Nodes: nodes, Way: left})
	// The other vote comes when it leads already.
	s := script{stand(0), take(0), take(0), take(0), take(0)}
	want := electedClan()
	want.Nodes[2] = follower(3, 2, 1, 1, nil, 0)
	want.Way = want.Way[1:]
	wantClan(t, "a vote more than is needed", 3, nil, s, want)
	s = inTurn(elected(), times(3, lose(0)), script{propose(0), beat(0), take(0), take(1)})
	lead := leader(0, 1, of(1, "a"), 1, 1, 1, 0)
	lead.Next[2] = 1
	wantClan(t, "what says how many a node has", 3, []string{"a"}, s, api.Clan{
		Nodes: []api.Node{lead, follower(3, 1, 1, 1, of(1, "a"), 0), follower(3, 2, 0, 0, nil, 0)},
		Way:   mails{brings(0, 2, 1, 0, 0, 0, of(1, "a"))},
	})
}

// threeOnWay: of four, 3 has asked all others, in the Term 1.
func threeOnWay() mails { return mails{asks(3, 0, 1, 0, 0), asks(3, 1, 1, 0, 0), asks(3, 2, 1, 0, 0)} }

func TestPlayOfDoubling(t *testing.T) {
	nodes := append(fresh(4)[:3], candidate(4, 3, 1))
	for n := range 3 {
		way := append(threeOnWay(), threeOnWay()[n])
		wantClan(t, "a mail that is doubled", 4, nil, append(asked(), double(n)), api.Clan{Nodes: nodes, Way: way})
		wantClan(t, "a mail that is doubled twice", 4, nil, append(asked(), double(n), double(n)), api.Clan{Nodes: nodes, Way: append(way, way[n])})
		wantClan(t, "a mail that is doubled, and its double", 4, nil, append(asked(), double(n), double(3)), api.Clan{Nodes: nodes, Way: append(way, way[n])})
	}
	wantWay(t, "a mail with entries that is doubled", 2, []string{"a", "b"}, script{stand(0), take(0), take(0), lose(0), propose(0), propose(0), beat(0), double(0)},
		brings(0, 1, 1, 0, 0, 0, of(1, "a", "b")), brings(0, 1, 1, 0, 0, 0, of(1, "a", "b")))
	// It is taken twice, and answered twice.
	wantWay(t, "a mail that is doubled, and taken", 2, nil, script{stand(0), double(0), take(0), take(0)}, votes(1, 0, 1, true), votes(1, 0, 1, true))
}

func TestPlayOfLosing(t *testing.T) {
	nodes := append(fresh(4)[:3], candidate(4, 3, 1))
	for n := range 3 {
		way := slices.Delete(threeOnWay(), n, n+1)
		wantClan(t, "a mail that is lost", 4, nil, append(asked(), lose(n)), api.Clan{Nodes: nodes, Way: way})
		for m := range 2 {
			left := slices.Delete(slices.Clone(way), m, m+1)
			wantClan(t, "two mails that are lost", 4, nil, append(asked(), lose(n), lose(m)), api.Clan{Nodes: nodes, Way: left})
		}
		wantClan(t, "all mails that are lost", 4, nil, append(asked(), lose(n), lose(0), lose(0)), api.Clan{Nodes: nodes})
		wantClan(t, "a mail that is doubled, and lost", 4, nil, append(asked(), double(n), lose(3)), api.Clan{Nodes: nodes, Way: threeOnWay()})
		wantClan(t, "a mail that is lost, and was doubled", 4, nil, append(asked(), double(n), lose(n)), api.Clan{Nodes: nodes, Way: append(way, threeOnWay()[n])})
	}
}

// TestPlayOfRestarting: the Term, the Vote and the Log stay, and so does what is on its way.
func TestPlayOfRestarting(t *testing.T) {
	nodes := append(fresh(4)[:3], follower(4, 3, 1, 4, nil, 0))
	wantClan(t, "one that stood", 4, nil, append(asked(), restart(3)), api.Clan{Nodes: nodes, Way: threeOnWay()})
	for who := range 4 {
		wantClan(t, "one that nothing happened to", 4, nil, script{restart(who)}, api.Clan{Nodes: fresh(4)})
	}
	s := script{stand(0), propose(0), propose(0), restart(0)}
	wantClan(t, "one that led alone", 1, []string{"a", "b"}, s, api.Clan{Nodes: []api.Node{follower(1, 0, 1, 1, of(1, "a", "b"), 0)}})
	wantClan(t, "one that led alone, twice", 1, []string{"a", "b"}, append(s, restart(0)), api.Clan{Nodes: []api.Node{follower(1, 0, 1, 1, of(1, "a", "b"), 0)}})
	want := electedClan()
	want.Nodes[0] = follower(3, 0, 1, 1, nil, 0)
	wantClan(t, "one of three that led", 3, nil, append(elected(), restart(0)), want)
	want = electedClan()
	wantClan(t, "one of three that gave its vote", 3, nil, append(elected(), restart(1)), want)
}

// TestPlayLooksAtNoMore: the N of who does something, and the Who of a mail, may be any number.
func TestPlayLooksAtNoMore(t *testing.T) {
	for kind := range 7 {
		ahead := elected()
		plain := append(slices.Clone(ahead), api.Deed{Kind: kind})
		want := mustPlay(t, 3, []string{"a"}, plain)
		for _, any := range append(far(), 0, 1, 2, 3, 7, 200) {
			d := api.Deed{Kind: kind, N: any}
			if kind >= 3 && kind <= 5 {
				d = api.Deed{Kind: kind, Who: any}
			}
			wantClan(t, "any other number", 3, []string{"a"}, append(slices.Clone(ahead), d), want)
		}
	}
}
