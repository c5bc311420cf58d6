package seal_test

import (
	"fmt"
	"slices"
	"testing"

	"tabulary/api"
	"tabulary/seal"
)

// TestExamples: the chapter's own. Whichever two of three have taken it, and whichever of these is closed with the third one.
func TestExamples(t *testing.T) {
	for third := range 3 {
		one, two := (third+1)%3, (third+2)%3
		for _, order := range [][]int{{one, third}, {third, one}, {two, third}, {third, two}} {
			s := inTurn(script{write(), bring(one, 0), bring(two, 0), begin(2)}, shutAll(0, order...), script{choose(0)})
			v := mustPlay(t, 3, []string{"a"}, s)
			wantSure(t, "what two of three have taken", v, 1)
			if h := v.Heals[0]; !h.Has || !slices.Equal(h.Recs, []string{"a"}) {
				t.Errorf("by %v is chosen %v, %v", order, h.Has, h.Recs)
			}
		}
	}
}

func areMostOf(some []int, v api.Vault) bool { return 2*len(some) > len(v.Copies) }

// wantWhatFollows: all recoveries that have ended most have chosen the same; each that has chosen has all that is sure, and nothing that was not written.
func wantWhatFollows(t *testing.T, v api.Vault, s script) {
	t.Helper()
	sure, f := seal.Sure(v)
	wantFault(t, "Sure", f, api.Fault{})
	var done *api.Heal
	for i := range v.Heals {
		h := &v.Heals[i]
		if !h.Has {
			continue
		}
		if len(h.Recs) < sure || !slices.Equal(h.Recs[:sure], v.Wrote[:sure]) {
			t.Fatalf("%v is chosen, though %v is sure, behind %v", h.Recs, v.Wrote[:sure], s)
		}
		if len(h.Recs) > len(v.Wrote) || !slices.Equal(h.Recs, v.Wrote[:len(h.Recs)]) {
			t.Fatalf("%v is chosen, though %v was written, behind %v", h.Recs, v.Wrote, s)
		}
		if !areMostOf(h.Ends, v) {
			continue
		}
		if done != nil && !slices.Equal(done.Recs, h.Recs) {
			t.Fatalf("two have ended most, with %v and %v, behind %v", done.Recs, h.Recs, s)
		}
		done = h
	}
}

// wantNothingUndone: what was chosen stays so, and what was sure is so for good.
func wantNothingUndone(t *testing.T, was, is api.Vault, s script) {
	t.Helper()
	before, _ := seal.Sure(was)
	if then, _ := seal.Sure(is); then < before {
		t.Fatalf("%d are sure behind %d, by %v", then, before, s)
	}
	for i, h := range was.Heals {
		if h.Has && (!is.Heals[i].Has || !slices.Equal(is.Heals[i].Recs, h.Recs)) {
			t.Fatalf("%v was chosen, then %v, by %v", h.Recs, is.Heals[i].Recs, s)
		}
	}
}

// counts of what scripts come to, so that they are known to come to enough.
type counts struct {
	sure, lateSure, chosen, others, done, twoDone int
}

// add counts what a vault has come to; early: so many were sure when the first recovery had chosen.
func (c *counts) add(v api.Vault, early int) {
	sure, _ := seal.Sure(v)
	c.sure += sure
	var first *api.Heal
	done := 0
	for i := range v.Heals {
		h := &v.Heals[i]
		if !h.Has {
			continue
		}
		c.chosen++
		if areMostOf(h.Ends, v) {
			done++
		}
		if first == nil {
			first = h
		}
		if !slices.Equal(first.Recs, h.Recs) {
			c.others++
		}
	}
	if first != nil && sure > early {
		c.lateSure++
	}
	if done > 0 {
		c.done++
	}
	if done > 1 {
		c.twoDone++
	}
}

// hasChosen tells whether a recovery has chosen.
func hasChosen(v api.Vault) bool {
	return slices.ContainsFunc(v.Heals, func(h api.Heal) bool { return h.Has })
}

// TestWhatFollows: behind each deed of many scripts, in which several recoveries go on at once.
func TestWhatFollows(t *testing.T) {
	s := number(4)
	var c counts
	for range 2500 {
		n, recs := 1+s.below(7), texts(1+s.below(5))
		l := anyScript(&s, n, recs, 120)
		was, early := api.Vault{}, 0
		for i := range l {
			v := mustPlay(t, n, recs, l[:i+1])
			wantWhatFollows(t, v, l[:i+1])
			wantNothingUndone(t, was, v, l[:i+1])
			if hasChosen(v) && !hasChosen(was) {
				early, _ = seal.Sure(v)
			}
			was = v
		}
		c.add(was, early)
	}
	if c.sure < 500 || c.lateSure < 20 || c.chosen < 1000 || c.others < 50 || c.done < 300 || c.twoDone < 100 {
		t.Errorf("scripts come to little: %+v", c)
	}
}

// TestWhatWillBeSure: a record that one alone of those that were heard has taken, and that is sure when others take it later.
func TestWhatWillBeSure(t *testing.T) {
	s := inTurn(script{write(), bring(0, 0), begin(2)}, shutAll(0, 0, 1, 2), script{choose(0)})
	v := mustPlay(t, 5, []string{"a"}, s)
	wantSure(t, "what one has taken", v, 0)
	if !slices.Equal(v.Heals[0].Recs, []string{"a"}) {
		t.Errorf("%v is chosen", v.Heals[0].Recs)
	}
	v = mustPlay(t, 5, []string{"a"}, append(s, bring(3, 0), bring(4, 0)))
	wantSure(t, "what two more have taken", v, 1)
	wantWhatFollows(t, v, s)
}

// TestWhatNeverWillBeSure: a record that none of those that were heard has taken can't be taken by most.
func TestWhatNeverWillBeSure(t *testing.T) {
	s := inTurn(script{write(), bring(3, 0), bring(4, 0), begin(2)}, shutAll(0, 0, 1, 2), script{choose(0)})
	for who := range 5 {
		s = append(s, bring(who, 0), bring(who, 0))
	}
	v := mustPlay(t, 5, []string{"a"}, s)
	wantSure(t, "what two of five have taken", v, 0)
	if h := v.Heals[0]; !h.Has || len(h.Recs) != 0 {
		t.Errorf("%v is chosen", h.Recs)
	}
}

// TestLaterRecoveriesGoOn: what one has ended most copies with, all later ones choose, by whichever copies they hear, though others have more records.
func TestLaterRecoveriesGoOn(t *testing.T) {
	ahead := inTurn(taken(), script{begin(2)}, shutAll(0, 1, 2), script{choose(0)})
	for _, ends := range [][]int{{1, 2}, {0, 1}, {2, 0}, {0, 1, 2}} {
		for _, heard := range [][]int{{0, 1}, {1, 0}, {0, 2}, {2, 1}, {2, 1, 0}} {
			s := inTurn(ahead, endAll(0, ends...), script{begin(9)}, shutAll(1, heard...), script{choose(1)})
			h := mustPlay(t, 3, []string{"a", "b"}, s).Heals[1]
			if !h.Has || !slices.Equal(h.Recs, []string{"a"}) {
				t.Errorf("behind an end of %v, by %v is chosen %v", ends, heard, h.Recs)
			}
		}
	}
}

// seenVault: a vault as far as it counts for what may come: in whichever order copies were heard and have taken something.
func seenVault(v api.Vault) string {
	out := fmt.Sprint(v.Copies, v.Wrote)
	for _, who := range v.Took {
		out += fmt.Sprint(slices.Sorted(slices.Values(who)))
	}
	for _, h := range v.Heals {
		said := make([]api.Copy, len(v.Copies))
		for i, who := range h.Heard {
			said[who] = h.Said[i]
		}
		out += fmt.Sprint(said, h.Has, h.Recs, slices.Sorted(slices.Values(h.Ends)))
	}
	return out
}

// walk goes through all that some deeds may come to behind a script, in whatever order; and tells each vault once.
func walk(t *testing.T, recs []string, s, some script, see func(v api.Vault, s script)) {
	seen := map[string]int{}
	for work := []script{s}; len(work) > 0; work = work[1:] {
		for _, d := range some {
			l := append(slices.Clip(work[0]), d)
			v := mustPlay(t, 3, recs, l)
			key := seenVault(v)
			if seen[key]++; seen[key] == 1 {
				see(v, l)
				work = append(work, l)
			}
		}
	}
}

// TestAllVaults: all that two recoveries of three copies may come to; of which none has a record that was written, or some have.
func TestAllVaults(t *testing.T) {
	some := script{choose(0), choose(1)}
	for who := range 3 {
		some = append(some, shut(who, 0), shut(who, 1), end(who, 0), end(who, 1))
	}
	for _, c := range []struct {
		recs  []string
		ahead script
		more  script
	}{
		{[]string{"a"}, script{write(), begin(3), begin(2)}, script{bring(0, 0), bring(1, 0), bring(2, 0)}},
		{[]string{"a", "b"}, append(taken(), begin(2), begin(3)), nil},
	} {
		vaults, twoDone := 0, 0
		walk(t, c.recs, c.ahead, inTurn(some, c.more), func(v api.Vault, s script) {
			vaults++
			wantWhatFollows(t, v, s)
			if areMostOf(v.Heals[0].Ends, v) && areMostOf(v.Heals[1].Ends, v) {
				twoDone++
			}
		})
		if vaults < 1000 || twoDone < 100 {
			t.Errorf("%d vaults, in %d of which two have ended most, are too few", vaults, twoDone)
		}
	}
}
