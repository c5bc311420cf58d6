package clan_test

import (
	"slices"
	"testing"

	"tabulary/api"
)

// tale: a story that is told to its end; behind every deed, what Play tells is looked at.
func tale(n int) story { return newStory(new(number), n, 1) }

// hear has mails among some nodes be taken, the first ones first, and those that come of them, until there are none.
func (s story) hear(t *testing.T, near ...int) {
	t.Helper()
	for heard := s.heard(near...); len(heard) > 0; heard = s.heard(near...) {
		s.happen(t, take(heard[0]))
	}
}

// between: the number of the first mail from a node to another one.
func (s story) between(t *testing.T, from, to int) int {
	t.Helper()
	for n, m := range s.clan().Way {
		if m.From == from && m.To == to {
			return n
		}
	}
	t.Fatalf("no mail from %d to %d is on its way", from, to)
	return -1
}

// loseBut loses all mails but those from a node to another one.
func (s story) loseBut(t *testing.T, from, to int) {
	t.Helper()
	for n, m := range slices.Backward(s.clan().Way) {
		if m.From != from || m.To != to {
			s.happen(t, lose(n))
		}
	}
}

func (s story) loseAll(t *testing.T) {
	t.Helper()
	for range s.onWay() {
		s.happen(t, lose(0))
	}
}

// elect has a node stand, and come to lead among some that hear it.
func (s story) elect(t *testing.T, who int, near ...int) {
	t.Helper()
	for s.nodes[who].Role != 2 {
		s.happen(t, stand(who))
		s.hear(t, append(near, who)...)
		if s.nodes[who].Term > 20 {
			t.Fatalf("%d does not come to lead", who)
		}
	}
}

// spread has a node that leads beat, and some others hear it, one by one, until they have what it has.
func (s story) spread(t *testing.T, from int, to ...int) {
	t.Helper()
	for range 5 {
		s.happen(t, beat(from))
		for _, who := range to {
			s.hear(t, from, who)
		}
	}
}

// wantNode: a node has these texts, and knows so many to be for good.
func (s story) wantNode(t *testing.T, who, commit int, want ...string) {
	t.Helper()
	x := s.nodes[who]
	var got []string
	for _, e := range x.Log {
		got = append(got, e.Text)
	}
	if !slices.Equal(got, want) || x.Commit != commit {
		t.Fatalf("%d has %v, %d for good, want %v and %d", who, got, x.Commit, want, commit)
	}
}

// wantRole: what a node does, and in which Term.
func (s story) wantRole(t *testing.T, who, role, term int) {
	t.Helper()
	if x := s.nodes[who]; x.Role != role || x.Term != term {
		t.Fatalf("%d has the Role %d in the Term %d, want %d and %d", who, x.Role, x.Term, role, term)
	}
}

func (s story) wantGood(t *testing.T, want ...string) {
	t.Helper()
	wantGood(t, "a tale", mustPlay(t, len(s.nodes), s.texts, s.deeds), want...)
}

// TestAClanAgrees: nothing is lost, and all know the same to be for good.
func TestAClanAgrees(t *testing.T) {
	for n := 1; n <= api.MaxNodes; n++ {
		s := tale(n)
		top, all := n/2, []int{}
		for id := range n {
			all = append(all, id)
		}
		s.elect(t, top, all...)
		for range 7 {
			s.happen(t, propose(top))
		}
		for range 4 {
			s.happen(t, beat(top))
			s.hear(t, all...)
		}
		for id := range n {
			s.wantNode(t, id, 7, texts(7)...)
		}
		s.wantGood(t, texts(7)...)
	}
}

// TestARestartGivesNoSecondVote: two stand in one Term, and the third one has its vote for one of them, whatever happens to it.
func TestARestartGivesNoSecondVote(t *testing.T) {
	s := tale(3)
	s.happen(t, stand(0))
	s.happen(t, stand(2))
	s.hear(t, 0, 1)
	s.wantRole(t, 0, 2, 1)
	s.happen(t, restart(1))
	s.hear(t, 1, 2)
	s.wantRole(t, 2, 1, 1)
}

// TestADoubledVoteIsOne: of five, two are not most, however often one of them says so.
func TestADoubledVoteIsOne(t *testing.T) {
	s := tale(5)
	s.happen(t, stand(0))
	s.happen(t, double(s.between(t, 0, 1)))
	s.happen(t, take(s.between(t, 0, 1)))
	s.happen(t, double(s.between(t, 1, 0)))
	s.hear(t, 0, 1)
	s.wantRole(t, 0, 1, 1)
	s.hear(t, 0, 2)
	s.wantRole(t, 0, 2, 1)
}

// TestALateVoteIsNone: it was given in an earlier Term, and in the later one to somebody else.
func TestALateVoteIsNone(t *testing.T) {
	s := tale(3)
	s.happen(t, stand(0))
	s.happen(t, take(s.between(t, 0, 1)))
	s.loseBut(t, 1, 0)
	s.happen(t, stand(0))
	s.happen(t, stand(2))
	s.happen(t, stand(2))
	s.hear(t, 1, 2)
	s.wantRole(t, 2, 2, 2)
	s.happen(t, take(s.between(t, 1, 0)))
	s.wantRole(t, 0, 1, 2)
}

// TestWhoeverLacksWhatIsForGoodDoesNotLead: however often it stands, unless it has heard of it.
func TestWhoeverLacksWhatIsForGoodDoesNotLead(t *testing.T) {
	s := tale(3)
	s.elect(t, 0, 1)
	s.happen(t, propose(0))
	s.spread(t, 0, 1)
	s.wantGood(t, "t0")
	s.loseAll(t)
	s.happen(t, restart(0))
	for range 5 {
		s.happen(t, stand(2))
		s.hear(t, 0, 1, 2)
	}
	s.wantRole(t, 2, 1, s.nodes[2].Term)
	s.elect(t, 1, 0, 2)
	s.happen(t, propose(1))
	s.spread(t, 1, 2)
	s.elect(t, 2, 0, 1)
	s.wantNode(t, 2, 2, "t0", "t1")
	s.wantGood(t, "t0", "t1")
}

// TestAnOldEntryIsNotForGoodByItself: most have it, and yet another one comes to lead, and takes it away.
func TestAnOldEntryIsNotForGoodByItself(t *testing.T) {
	s := tale(3)
	s.elect(t, 0, 2)
	s.happen(t, propose(0))
	s.elect(t, 1, 2)
	s.happen(t, propose(1))
	s.loseAll(t)
	s.happen(t, restart(0))
	s.elect(t, 0, 2)
	s.spread(t, 0, 2)
	s.wantNode(t, 0, 0, "t0")
	s.wantNode(t, 2, 0, "t0")
	s.wantGood(t)
	s.loseAll(t)
	s.happen(t, restart(1))
	s.elect(t, 1, 2)
	s.spread(t, 1, 0, 2)
	s.happen(t, propose(1))
	s.spread(t, 1, 0, 2)
	for who := range 3 {
		s.wantNode(t, who, 2, "t1", "t2")
	}
}

// TestAnOldEntryIsForGoodWithANewOne: behind it, of the Term of the one that leads; then no one without it can lead.
func TestAnOldEntryIsForGoodWithANewOne(t *testing.T) {
	s := tale(3)
	s.elect(t, 0, 2)
	s.happen(t, propose(0))
	s.elect(t, 1, 2)
	s.happen(t, propose(1))
	s.loseAll(t)
	s.happen(t, restart(0))
	s.elect(t, 0, 2)
	s.happen(t, propose(0))
	s.spread(t, 0, 2)
	s.wantNode(t, 0, 2, "t0", "t2")
	s.loseAll(t)
	s.happen(t, restart(1))
	for range 5 {
		s.happen(t, stand(1))
		s.hear(t, 1, 2)
	}
	s.wantRole(t, 1, 1, s.nodes[1].Term)
	s.wantNode(t, 2, 2, "t0", "t2")
}

// TestLateEntriesTakeNothingAway: they come from one that led in an earlier Term, to one that does not know yet what is for good.
func TestLateEntriesTakeNothingAway(t *testing.T) {
	s := tale(3)
	s.elect(t, 0, 1)
	s.loseAll(t)
	s.happen(t, propose(0))
	s.happen(t, beat(0))
	s.loseBut(t, 0, 2)
	s.elect(t, 1, 2)
	s.happen(t, propose(1))
	s.happen(t, beat(1))
	s.hear(t, 1, 2)
	s.wantNode(t, 1, 1, "t1")
	s.wantNode(t, 2, 0, "t1")
	s.happen(t, take(s.between(t, 0, 2)))
	s.wantNode(t, 2, 0, "t1")
	s.loseAll(t)
	for range 5 {
		s.happen(t, restart(0))
		s.happen(t, stand(0))
		s.hear(t, 0, 2)
	}
	s.wantRole(t, 0, 1, s.nodes[0].Term)
	s.wantGood(t, "t1")
}

// TestALateAnswerCountsForNothing: it tells what a node had in an earlier Term, and has no more.
func TestALateAnswerCountsForNothing(t *testing.T) {
	s := tale(5)
	s.elect(t, 0, 1, 2)
	s.loseAll(t)
	for range 3 {
		s.happen(t, propose(0))
	}
	s.happen(t, beat(0))
	s.happen(t, take(s.between(t, 0, 1)))
	s.loseBut(t, 1, 0)
	s.elect(t, 2, 3, 4)
	s.happen(t, propose(2))
	s.spread(t, 2, 0)
	s.spread(t, 2, 1)
	s.wantNode(t, 0, 0, "t3")
	s.wantNode(t, 1, 1, "t3")
	s.loseBut(t, 1, 0)
	s.elect(t, 0, 3, 4)
	s.happen(t, propose(0))
	s.happen(t, propose(0))
	s.spread(t, 0, 3)
	s.wantNode(t, 0, 0, "t3", "t4", "t5")
	s.happen(t, take(s.between(t, 1, 0)))
	s.wantNode(t, 0, 0, "t3", "t4", "t5")
	s.spread(t, 0, 1)
	s.wantNode(t, 0, 3, "t3", "t4", "t5")
}

// TestLateEntriesOfTheSameTerm: they were sent ahead of others that come first, and take none of these away; nor does what is answered to them.
func TestLateEntriesOfTheSameTerm(t *testing.T) {
	s := tale(2)
	s.elect(t, 0, 1)
	for range 2 {
		s.happen(t, propose(0))
		s.happen(t, beat(0))
	}
	s.happen(t, double(0))
	s.happen(t, take(1))
	s.wantNode(t, 1, 0, "t0", "t1")
	s.happen(t, take(0))
	s.wantNode(t, 1, 0, "t0", "t1")
	s.wantNode(t, 0, 0, "t0", "t1")
	s.happen(t, take(1))
	s.wantNode(t, 0, 2, "t0", "t1")
	s.hear(t, 0, 1)
	s.wantNode(t, 0, 2, "t0", "t1")
	s.wantNode(t, 1, 0, "t0", "t1")
	s.spread(t, 0, 1)
	s.wantNode(t, 1, 2, "t0", "t1")
}
