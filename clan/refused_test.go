package clan_test

import (
	"math"
	"testing"

	"tabulary/api"
)

func TestPlayOfWrongSizes(t *testing.T) {
	for _, n := range []int{0, -1, api.MaxNodes + 1, api.MaxNodes + 2, math.MinInt, math.MaxInt} {
		wantRefused(t, "too few or too many nodes", n, nil, nil, fault(api.ErrRange, -1))
		wantRefused(t, "too few or too many nodes, and all else", n, texts(api.MaxRecs+1), make(script, api.MaxOps+1), fault(api.ErrRange, -1))
		wantRefused(t, "too few or too many nodes, and a wrong deed", n, nil, script{{Kind: 7}}, fault(api.ErrRange, -1))
	}
	for _, n := range []int{1, 2, api.MaxNodes} {
		wantFine(t, "so many nodes", n, nil, nil)
	}
}

func TestPlayOfTooManyDeeds(t *testing.T) {
	wantFine(t, "MaxOps deeds", 1, nil, make(script, api.MaxOps))
	for _, many := range []int{api.MaxOps + 1, 5000} {
		wantRefused(t, "too many deeds", 1, nil, make(script, many), fault(api.ErrMany, -1))
		wantRefused(t, "too many deeds and texts", 1, texts(api.MaxRecs+1), make(script, many), fault(api.ErrMany, -1))
		wantRefused(t, "too many deeds, all of which are wrong", 1, nil, times(many, api.Deed{Kind: 7}), fault(api.ErrMany, -1))
	}
	wantRefused(t, "MaxOps deeds, the last of which is wrong", 1, nil, append(make(script, api.MaxOps-1), api.Deed{Kind: 7}), fault(api.ErrKind, api.MaxOps-1))
}

func TestPlayOfTooManyTexts(t *testing.T) {
	wantFine(t, "MaxRecs texts", 1, texts(api.MaxRecs), script{stand(0)})
	for _, many := range []int{api.MaxRecs + 1, 5000} {
		wantRefused(t, "too many texts", 1, texts(many), nil, fault(api.ErrMany, -2))
		wantRefused(t, "too many texts, and a wrong deed", 1, texts(many), script{{Kind: -1}}, fault(api.ErrMany, -2))
		wantRefused(t, "too many texts, and MaxOps deeds", 7, texts(many), make(script, api.MaxOps), fault(api.ErrMany, -2))
	}
	// However long they are.
	wantFine(t, "texts that are too long", 1, []string{long(100000), "", long(201)}, script{propose(0)})
}

// begun: of three, 0 leads, and has a; three mails are on their way, and b is left.
func begun() script { return append(elected(), propose(0)) }

// wantRefusedNext: a deed behind others is refused with a code, whatever stands behind it.
func wantRefusedNext(t *testing.T, what string, ahead script, d api.Deed, code int) {
	t.Helper()
	some, want := []string{"a", "b"}, fault(code, len(ahead))
	wantFine(t, "all ahead of "+what, 3, some, ahead)
	wantRefused(t, what, 3, some, inTurn(ahead, script{d}), want)
	wantRefused(t, what+", and more", 3, some, inTurn(ahead, script{d, {Kind: 7}, stand(3), take(-1), stand(0)}), want)
}

// wantFineNext: a deed behind begun has no fault.
func wantFineNext(t *testing.T, what string, d api.Deed) {
	t.Helper()
	wantFine(t, what, 3, []string{"a", "b"}, append(begun(), d))
}

func TestPlayOfWrongKinds(t *testing.T) {
	for _, kind := range []int{-1, 7, 8, 9, -7, math.MinInt, math.MaxInt} {
		for _, ahead := range []script{nil, begun()} {
			wantRefusedNext(t, "a wrong kind", ahead, api.Deed{Kind: kind}, api.ErrKind)
			wantRefusedNext(t, "a wrong kind of no node and no mail", ahead, api.Deed{Kind: kind, Who: -1, N: -1}, api.ErrKind)
		}
	}
	for kind := range 7 {
		wantFineNext(t, "each kind", api.Deed{Kind: kind})
	}
}

func TestPlayOfNoNode(t *testing.T) {
	for _, kind := range []int{0, 1, 2, 6} {
		for _, who := range append(far(), 3, 4, api.MaxNodes) {
			wantRefusedNext(t, "no node", begun(), api.Deed{Kind: kind, Who: who}, api.ErrRange)
			wantRefusedNext(t, "no node, first of all", nil, api.Deed{Kind: kind, Who: who}, api.ErrRange)
			wantRefusedNext(t, "no node, and no mail", begun(), api.Deed{Kind: kind, Who: who, N: -1}, api.ErrRange)
		}
		for who := range 3 {
			wantFineNext(t, "a node", api.Deed{Kind: kind, Who: who})
		}
		for n := 1; n <= api.MaxNodes; n++ {
			wantFine(t, "the last node", n, []string{"a"}, script{{Kind: kind, Who: n - 1}})
			wantRefused(t, "one behind the last node", n, []string{"a"}, script{{Kind: kind, Who: n}}, fault(api.ErrRange, 0))
			wantRefused(t, "one ahead of the first node", n, []string{"a"}, script{{Kind: kind, Who: -1}}, fault(api.ErrRange, 0))
		}
	}
	// The others are of mails alone.
	for _, kind := range []int{3, 4, 5} {
		for _, who := range append(far(), 3) {
			wantFineNext(t, "a mail, whoever it is", api.Deed{Kind: kind, Who: who})
		}
	}
}

func TestPlayOfNoMail(t *testing.T) {
	for _, kind := range []int{3, 4, 5} {
		for _, n := range append(far(), 3, 4, 200) {
			wantRefusedNext(t, "no mail", begun(), api.Deed{Kind: kind, N: n}, api.ErrRange)
			wantRefusedNext(t, "no mail of no node", begun(), api.Deed{Kind: kind, N: n, Who: -1}, api.ErrRange)
		}
		for n := range 3 {
			wantFineNext(t, "a mail", api.Deed{Kind: kind, N: n})
		}
		wantRefusedNext(t, "a mail where there never was one", nil, api.Deed{Kind: kind}, api.ErrRange)
		for gone := range 3 {
			wantRefusedNext(t, "the last mail, behind one that was lost", append(begun(), lose(gone)), api.Deed{Kind: kind, N: 2}, api.ErrRange)
		}
		wantRefusedNext(t, "a mail where there is none any more", append(begun(), lose(0), lose(0), lose(0)), api.Deed{Kind: kind}, api.ErrRange)
		wantFine(t, "a mail that was doubled", 3, []string{"a"}, append(begun(), double(0), api.Deed{Kind: kind, N: 3}))
		wantRefusedNext(t, "one behind a mail that was doubled", append(begun(), double(0)), api.Deed{Kind: kind, N: 4}, api.ErrRange)
	}
	// The others are of nodes alone.
	for _, kind := range []int{0, 1, 2, 6} {
		for _, n := range append(far(), 3) {
			wantFineNext(t, "a node, whatever its N is", api.Deed{Kind: kind, N: n})
		}
	}
}

// TestPlayOfNoTextLeft: to whomever it would be proposed.
func TestPlayOfNoTextLeft(t *testing.T) {
	for who := range 3 {
		wantRefused(t, "a text where there is none", 3, nil, script{propose(who)}, fault(api.ErrNone, 0))
		wantRefused(t, "a text where there is none, and one leads", 3, []string{}, append(elected(), propose(who)), fault(api.ErrNone, 3))
		wantRefused(t, "a text where there is none, and one stands", 3, nil, script{stand(who), propose(who)}, fault(api.ErrNone, 1))
		wantRefusedNext(t, "a text where there is none any more", append(begun(), propose(0)), propose(who), api.ErrNone)
		wantRefusedNext(t, "a text where there is none any more, behind a restart", append(begun(), propose(0), restart(0)), propose(who), api.ErrNone)
	}
	wantRefused(t, "a text behind MaxRecs", 1, texts(api.MaxRecs), inTurn(script{propose(0), stand(0)}, times(api.MaxRecs+1, propose(0))), fault(api.ErrNone, api.MaxRecs+2))
	// What lies behind the texts is none.
	wantRefused(t, "a text behind the others", 1, texts(3)[:2], append(script{stand(0)}, times(3, propose(0))...), fault(api.ErrNone, 3))
	for _, who := range []int{-1, 3} {
		wantRefusedNext(t, "no text to no node", append(begun(), propose(0)), propose(who), api.ErrRange)
	}
}

// onWay: of n nodes, 0 stands, and so many mails are on their way.
func onWay(n, many int) script {
	return append(script{stand(0)}, times(many-(n-1), double(0))...)
}

// wantMuch: a deed behind others may be done, or brings more mails on their way than may be.
func wantMuch(t *testing.T, what string, n int, ahead script, d api.Deed, isMuch bool) {
	t.Helper()
	some := []string{"a", "b"}
	wantFine(t, "all ahead of "+what, n, some, ahead)
	if isMuch {
		wantRefused(t, what, n, some, inTurn(ahead, script{d}), fault(api.ErrMuch, len(ahead)))
		wantRefused(t, what+", and less", n, some, inTurn(ahead, script{d, lose(0), {Kind: 7}}), fault(api.ErrMuch, len(ahead)))
		return
	}
	wantFine(t, what, n, some, inTurn(ahead, script{d}))
}

func TestPlayOfTooManyMailsByStanding(t *testing.T) {
	for n := 2; n <= api.MaxNodes; n++ {
		for many := 190; many <= 200; many++ {
			wantMuch(t, "one that stands again", n, onWay(n, many), stand(0), many+n-1 > 200)
			wantMuch(t, "another one that stands", n, onWay(n, many), stand(n-1), many+n-1 > 200)
		}
	}
}

func TestPlayOfTooManyMailsByDoubling(t *testing.T) {
	for n := 2; n <= api.MaxNodes; n++ {
		for _, at := range []int{0, 1, 100, 198} {
			wantMuch(t, "the mail 200", n, onWay(n, 199), double(at), false)
			wantMuch(t, "one mail more than 200", n, onWay(n, 200), double(at), true)
		}
		wantMuch(t, "the last mail of 200", n, onWay(n, 200), double(199), true)
		wantMuch(t, "no mail of 200", n, onWay(n, 200), lose(199), false)
	}
}

// leading: of n nodes, 0 leads, and so many mails are on their way.
func leading(n, many int) script {
	s, need := script{stand(0)}, n/2
	for range need {
		s = append(s, take(0))
	}
	// The votes stand behind what the others were asked.
	for range need {
		s = append(s, take(n-1-need))
	}
	// Of those, the others are there yet, and what 0 brings all.
	return append(s, times(many-(n-1-need)-(n-1), double(0))...)
}

func TestPlayOfTooManyMailsByBeating(t *testing.T) {
	for n := 2; n <= api.MaxNodes; n++ {
		if c := mustPlay(t, n, nil, leading(n, 190)); c.Nodes[0].Role != 2 || len(c.Way) != 190 {
			t.Fatalf("of %d nodes, 0 does not lead with 190 mails on their way: %s", n, told(c))
		}
		for many := 190; many <= 200; many++ {
			wantMuch(t, "one that beats", n, leading(n, many), beat(0), many+n-1 > 200)
			wantMuch(t, "one that beats, and follows", n, leading(n, many), beat(n-1), false)
			wantMuch(t, "one that stands, and leads", n, leading(n, many), stand(0), false)
		}
	}
}

// TestPlayOfTooManyMailsByTaking: a vote by which a node comes to lead lets it beat; each other mail is answered by one at the most, in its own stead.
func TestPlayOfTooManyMailsByTaking(t *testing.T) {
	for n := 2; n <= api.MaxNodes; n++ {
		ahead := leading(n, 190)[:2*(n/2)]
		left := n - 1 - n/2
		for many := 190; many <= 200; many++ {
			// Of what is on its way, the vote that it needs stands behind what the others were asked; its doubles, behind it.
			s := inTurn(ahead, times(many-left-1, double(left)))
			wantMuch(t, "the vote by which one comes to lead", n, s, take(left), many-1+n-1 > 200)
			wantMuch(t, "its last double", n, s, take(many-1), many-1+n-1 > 200)
		}
		wantMuch(t, "a mail of 200 that is answered", n, onWay(n, 200), take(0), false)
		wantMuch(t, "the last mail of 200, which is answered", n, onWay(n, 200), take(199), false)
	}
}

// TestPlayOfFullWays: what sends nothing may be done with 200 mails on their way.
func TestPlayOfFullWays(t *testing.T) {
	for n := 2; n <= api.MaxNodes; n++ {
		for _, d := range []api.Deed{propose(0), propose(n - 1), restart(0), restart(n - 1), lose(0), lose(100), lose(199), take(3)} {
			wantMuch(t, "a deed with 200 mails on their way", n, onWay(n, 200), d, false)
			wantMuch(t, "a deed with 200 mails on their way, where one leads", n, leading(n, 200), d, false)
		}
		wantRefused(t, "no mail of 200", n, nil, append(onWay(n, 200), double(200)), fault(api.ErrRange, len(onWay(n, 200))))
		// Where one is gone, there is room for one.
		s := append(onWay(n, 200), lose(7), double(7))
		wantFine(t, "a mail lost of 200, and one doubled", n, nil, s)
		wantRefused(t, "and one more", n, nil, append(s, double(0)), fault(api.ErrMuch, len(s)))
	}
}

// TestPlayTellsTheFirstDeed: whatever its code is, and whatever is wrong behind it.
func TestPlayTellsTheFirstDeed(t *testing.T) {
	wrong := []struct {
		d    api.Deed
		code int
	}{
		{api.Deed{Kind: 7}, api.ErrKind}, {api.Deed{Kind: -1}, api.ErrKind}, {stand(3), api.ErrRange}, {take(200), api.ErrRange}, {propose(-1), api.ErrRange},
		{propose(0), api.ErrNone}, {propose(1), api.ErrNone}, {double(0), api.ErrMuch}, {stand(1), api.ErrMuch}, {beat(0), api.ErrMuch},
	}
	ahead := leading(3, 200)
	for _, a := range wrong {
		for _, b := range wrong {
			s := inTurn(ahead, script{restart(2), a.d, b.d})
			wantRefused(t, "two wrong deeds", 3, nil, s, fault(a.code, len(ahead)+1))
		}
	}
}
