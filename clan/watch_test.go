package clan_test

import (
	"fmt"
	"testing"

	"tabulary/api"
)

// termLed: who led in a Term, and the log that it had when it was first seen to.
type termLed struct {
	who int
	log log
}

// placePut: what stands at a place, of a Term, and the Term of the entry ahead of it.
type placePut struct {
	text  string
	ahead int
}

// placeGood: what is known to be for good at a place, and the least Term in which somebody knew that.
type placeGood struct {
	api.Entry
	since int
}

// watch is all that was seen of a clan, one moment behind the other: by Terms, by places and Terms, and by places.
type watch struct {
	led  map[int]termLed
	put  map[[2]int]placePut
	good map[int]placeGood
}

func newWatch() *watch {
	return &watch{led: map[int]termLed{}, put: map[[2]int]placePut{}, good: map[int]placeGood{}}
}

// look tells what should not be, as the clan is now behind all that was, or nothing.
func (w *watch) look(c api.Clan) string {
	for _, see := range []func(x api.Node) string{w.lookAtLog, w.lookAtGood, w.lookAtRole} {
		for _, x := range c.Nodes {
			if wrong := see(x); wrong != "" {
				return wrong
			}
		}
	}
	return w.lookAtLed()
}

// lookAtLog: logs that agree at a place are the same up to it. That is so, if what stands at a place, of a Term, is the same in all logs, and so is the Term ahead of it.
func (w *watch) lookAtLog(x api.Node) string {
	ahead := 0
	for i, e := range x.Log {
		at, now := [2]int{i + 1, e.Term}, placePut{e.Text, ahead}
		if was, is := w.put[at]; is && was != now {
			return fmt.Sprintf("logs agree at the place and Term %v, and have %v and %v there", at, was, now)
		}
		w.put[at] = now
		ahead = e.Term
	}
	return ""
}

// lookAtGood: nobody ever knows something else to be for good at a place.
func (w *watch) lookAtGood(x api.Node) string {
	for i, e := range x.Log[:x.Commit] {
		was, is := w.good[i+1]
		if !is {
			was = placeGood{e, x.Term}
		}
		if was.Entry != e {
			return fmt.Sprintf("for good at %d is %v, and %v", i+1, was.Entry, e)
		}
		was.since = min(was.since, x.Term)
		w.good[i+1] = was
	}
	return ""
}

// lookAtRole: never two lead in one Term.
func (w *watch) lookAtRole(x api.Node) string {
	if x.Role != 2 {
		return ""
	}
	was, is := w.led[x.Term]
	if !is {
		w.led[x.Term] = termLed{x.ID, x.Log}
		return ""
	}
	if was.who != x.ID {
		return fmt.Sprintf("%d and %d lead in the Term %d", was.who, x.ID, x.Term)
	}
	return ""
}

// lookAtLed: what somebody knows to be for good in a Term has each one that leads in a later one, from when it comes to lead on, though it may be known later than that.
func (w *watch) lookAtLed() string {
	for term, by := range w.led {
		for place, good := range w.good {
			if good.since < term && (len(by.log) < place || by.log[place-1] != good.Entry) {
				return fmt.Sprintf("%v is for good at %d since the Term %d, and %d, which leads in the Term %d, has %v", good.Entry, place, good.since, by.who, term, by.log)
			}
		}
	}
	return ""
}

// leads: one of three that leads, with a log.
func leads(id, term int, l log) api.Node { return leader(id, term, l, 0, len(l), len(l), len(l)) }

// TestWatchSees: what should not be is seen, in one moment or in several, one behind the other; and nothing else is.
func TestWatchSees(t *testing.T) {
	a, b, ab := of(1, "a"), of(1, "b"), log{{Term: 1, Text: "a"}, {Term: 2, Text: "b"}}
	none := follower(3, 2, 1, 0, nil, 0)
	for _, c := range []struct {
		what    string
		isWrong bool
		moments []api.Clan
	}{
		{"nothing", false, []api.Clan{{Nodes: fresh(3)}, {Nodes: fresh(3)}}},
		{"two that lead in two Terms", false, []api.Clan{clanOf(leads(0, 1, nil), leads(1, 2, nil), none)}},
		{"two that lead in one Term", true, []api.Clan{clanOf(leads(0, 1, nil), leads(1, 1, nil), none)}},
		{"two that lead in one Term, one behind the other", true, []api.Clan{clanOf(leads(0, 1, nil)), clanOf(none, leads(1, 2, nil)), clanOf(none, leads(1, 1, nil))}},
		{"logs that do not agree", false, []api.Clan{clanOf(follower(3, 0, 2, 0, a, 0), follower(3, 1, 2, 0, of(2, "b"), 0))}},
		{"logs that agree at a place, and have two texts there", true, []api.Clan{clanOf(follower(3, 0, 1, 0, a, 0), follower(3, 1, 1, 0, b, 0))}},
		{"logs that agree at a place, and have two Terms below it", true, []api.Clan{clanOf(follower(3, 0, 2, 0, ab, 0), follower(3, 1, 2, 0, of(2, "a", "b"), 0))}},
		{"logs that agree at a place, and have two texts below it", true, []api.Clan{clanOf(follower(3, 0, 2, 0, ab, 0), follower(3, 1, 2, 0, log{{Term: 1, Text: "c"}, {Term: 2, Text: "b"}}, 0))}},
		{"what two know to be for good", false, []api.Clan{clanOf(follower(3, 0, 2, 0, ab, 2), follower(3, 1, 2, 0, a, 1), follower(3, 2, 2, 0, of(2, "c"), 0))}},
		{"two things for good at one place", true, []api.Clan{clanOf(follower(3, 0, 2, 0, a, 1), follower(3, 1, 2, 0, of(2, "a"), 1))}},
		{"two things for good at one place, one behind the other", true, []api.Clan{clanOf(follower(3, 0, 2, 0, a, 1)), clanOf(follower(3, 0, 2, 0, a, 0)), clanOf(none, follower(3, 1, 2, 0, of(2, "a"), 1))}},
		{"one that leads without what is for good in its Term", false, []api.Clan{clanOf(follower(3, 0, 1, 0, a, 1), leads(1, 1, nil))}},
		{"one that leads without what is for good in a later Term", false, []api.Clan{clanOf(leads(1, 1, nil), none), clanOf(leads(1, 1, nil), follower(3, 0, 2, 0, ab, 2))}},
		{"one that leads with what is for good", false, []api.Clan{clanOf(follower(3, 0, 1, 0, a, 1)), clanOf(leads(1, 2, ab))}},
		{"one that leads without what is for good in an earlier Term", true, []api.Clan{clanOf(follower(3, 0, 1, 0, a, 1), leads(1, 2, nil))}},
		{"one that leads with something else there", true, []api.Clan{clanOf(follower(3, 0, 1, 0, a, 1)), clanOf(none), clanOf(leads(1, 2, of(2, "a")))}},
		{"one that led without what is known later to be for good in an earlier Term", true, []api.Clan{clanOf(leads(1, 2, nil)), clanOf(none), clanOf(follower(3, 0, 1, 0, a, 1))}},
	} {
		w, seen := newWatch(), ""
		for _, moment := range c.moments {
			seen += w.look(moment)
		}
		if (seen != "") != c.isWrong {
			t.Errorf("of %s is seen: %q", c.what, seen)
		}
	}
}
