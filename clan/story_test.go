package clan_test

import (
	"slices"
	"testing"

	"tabulary/api"
)

// TestExamples: the chapter's own.
func TestExamples(t *testing.T) {
	c := mustPlay(t, 1, []string{"a"}, script{stand(0), propose(0)})
	wantGood(t, "one node to which a is proposed", c, "a")
}

// story is a clan to which deeds happen as they come, and all that was seen of it.
type story struct {
	*byHand
	*number
	*watch
	// How many deeds lie between two behind which Play must tell the same.
	each int
}

func newStory(s *number, n, each int) story {
	return story{newByHand(n, texts(api.MaxRecs)), s, newWatch(), each}
}

// happen does a deed, and looks at what Play tells of all that were done.
func (s story) happen(t *testing.T, d api.Deed) {
	t.Helper()
	if code := s.do(d); code != 0 {
		t.Fatalf("the code %d of %v", code, s.deeds)
	}
	c := s.clan()
	if len(s.deeds)%s.each == 0 {
		c = s.wantByHand(t)
	}
	if wrong := s.look(c); wrong != "" {
		t.Fatalf("%s, behind %v", wrong, s.deeds)
	}
}

// run has deeds as they come happen, up to so many, by tempers that change.
func (s story) run(t *testing.T, many int) {
	t.Helper()
	how := anyTemper(s.number)
	for range many {
		if s.below(100) == 0 {
			how = anyTemper(s.number)
		}
		s.happen(t, s.something(s.number, how))
	}
}

// anyNear: nodes that hear each other for a while, mostly most of them.
func (s story) anyNear() []int {
	var out []int
	for id := range s.nodes {
		out = append(out, id)
	}
	for i := range out {
		j := s.below(i + 1)
		out[i], out[j] = out[j], out[i]
	}
	return out[:min(len(out), len(out)/2+[]int{0, 1, 1, 1, 2}[s.below(5)])]
}

// heard: the numbers, of the mails on their way, of those among some nodes.
func (s story) heard(near ...int) []int {
	var out []int
	for n, i := range s.onWay() {
		if m := s.sent[i]; slices.Contains(near, m.From) && slices.Contains(near, m.To) {
			out = append(out, n)
		}
	}
	return out
}

// scene has some nodes hear each other alone, the first of which may come to lead; then much of what is on its way is lost, and the rest is late.
func (s story) scene(t *testing.T, near []int) {
	t.Helper()
	for range 3 + s.below(20) {
		s.happen(t, s.inScene(near))
	}
	lost := 4 + s.below(5)
	for n := len(s.onWay()) - 1; n >= 0; n-- {
		if s.below(8) < lost {
			s.happen(t, lose(n))
		}
	}
}

// inScene: what happens next in a scene.
func (s story) inScene(near []int) api.Deed {
	heard, many := s.heard(near...), len(s.onWay())
	top, any := near[0], near[s.below(len(near))]
	isLeading, kind := s.nodes[top].Role == 2, s.below(60)
	switch {
	case many > 150:
		return lose(s.below(many))
	case kind == 0:
		return restart(any)
	case kind == 1:
		return stand(any)
	case kind < 5 && many > 0:
		return double(s.below(many))
	case kind < 8 && many > 0:
		return lose(s.below(many))
	case kind < 13 && isLeading && s.taken < len(s.texts):
		return propose(top)
	case len(heard) > 0:
		return take(heard[s.below(len(heard))])
	case isLeading:
		return beat(top)
	}
	return stand(top)
}

// seen: how often somebody came to lead, and something was for good, in many stories.
type seen struct{ terms, good int }

func (n *seen) add(s story) {
	n.terms += len(s.led)
	n.good += len(s.good)
}

// wantMuch: to look for what should not be tells little where little happens.
func (n seen) wantMuch(t *testing.T, terms, good int) {
	t.Helper()
	if n.terms < terms || n.good < good {
		t.Errorf("in %d Terms somebody leads, and %d entries are for good, which is little", n.terms, n.good)
	}
}

// TestWhateverHappens: behind every deed, what Play tells is looked at.
func TestWhateverHappens(t *testing.T) {
	number, all := number(11), seen{}
	for range 200 {
		s := newStory(&number, 2+number.below(4), 1)
		s.run(t, 200)
		all.add(s)
	}
	all.wantMuch(t, 500, 600)
}

// TestWhateverHappensLong: as many deeds as may be.
func TestWhateverHappensLong(t *testing.T) {
	number, all := number(12), seen{}
	for range 60 {
		s := newStory(&number, 1+number.below(7), 500)
		s.run(t, api.MaxOps)
		all.add(s)
	}
	all.wantMuch(t, 1000, 1500)
}

// TestWhoeverHears: ever other nodes hear each other; behind every deed, what Play tells is looked at.
func TestWhoeverHears(t *testing.T) {
	number, all := number(13), seen{}
	for range 200 {
		s := newStory(&number, 2+number.below(4), 1)
		for len(s.deeds) < 200 {
			s.scene(t, s.anyNear())
		}
		all.add(s)
	}
	all.wantMuch(t, 500, 400)
}

// TestWhoeverHearsLong: the same, of more deeds.
func TestWhoeverHearsLong(t *testing.T) {
	number, all := number(14), seen{}
	for range 250 {
		s := newStory(&number, 3+number.below(3), 300)
		for len(s.deeds) < 1500 {
			s.scene(t, s.anyNear())
		}
		all.add(s)
	}
	all.wantMuch(t, 5000, 3000)
}
