package lease_test

import (
	"math"
	"testing"

	"tabulary/api"
)

func TestPlayOfWrongSpans(t *testing.T) {
	for _, span := range wrongSpans() {
		want := fault(api.ErrRange, -3)
		wantRefused(t, "a wrong span", span, 1, nil, want)
		wantRefused(t, "a wrong span, and clients", span, 0, script{{Kind: 9}}, want)
		wantRefused(t, "a wrong span, and too many deeds", span, 8, make(script, api.MaxOps+1), want)
	}
	for _, span := range []int{4, 5, 1000000} {
		wantFine(t, "a span", span, 1, asked(0))
	}
}

func TestPlayOfWrongClients(t *testing.T) {
	for _, clients := range []int{0, 9, -1, math.MinInt, math.MaxInt} {
		want := fault(api.ErrRange, -1)
		wantRefused(t, "no clients", 8, clients, nil, want)
		wantRefused(t, "no clients, and wrong deeds", 8, clients, script{{Kind: 9}}, want)
		wantRefused(t, "no clients, and too many deeds", 8, clients, make(script, api.MaxOps+1), want)
	}
	for _, clients := range []int{1, 2, 8} {
		wantFine(t, "clients", 8, clients, asked(clients-1))
	}
}

func TestPlayOfTooManyDeeds(t *testing.T) {
	want := fault(api.ErrMany, -1)
	wantFine(t, "MaxOps deeds", 8, 8, make(script, api.MaxOps))
	wantFine(t, "MaxOps deeds that renew", 8, 8, times(api.MaxOps/4, append(asked(7), tick(1))))
	wantRefused(t, "one deed too many", 8, 8, make(script, api.MaxOps+1), want)
	wantRefused(t, "one deed too many, all of them wrong", 8, 8, times(api.MaxOps+1, script{{Kind: -1}}), want)
	wantRefused(t, "far too many deeds", 8, 8, make(script, 1<<20), want)
}

// begun: three clients, of which 0 trusts; of wishes two are on their way, of replies one.
func begun() script {
	return inTurn(asked(0), script{send(0), send(1), send(2), wishComes(0)})
}

// wantRefusedNext: a deed behind others is refused with a code, whatever stands behind it.
func wantRefusedNext(t *testing.T, what string, ahead script, d api.Deed, code int) {
	t.Helper()
	want := fault(code, len(ahead))
	wantFine(t, "all ahead of "+what, 8, 3, ahead)
	wantRefused(t, what, 8, 3, inTurn(ahead, script{d}), want)
	wantRefused(t, what+", and more", 8, 3, inTurn(ahead, script{d, {Kind: 9}, tick(-1), tick(1)}), want)
}

func TestPlayOfWrongKinds(t *testing.T) {
	for _, kind := range []int{-1, 9, 10, math.MinInt, math.MaxInt} {
		for _, ahead := range []script{nil, begun()} {
			wantRefusedNext(t, "a wrong kind", ahead, api.Deed{Kind: kind}, api.ErrKind)
			wantRefusedNext(t, "a wrong kind of a wrong client", ahead, api.Deed{Kind: kind, Who: -1, N: -1}, api.ErrKind)
		}
	}
	for kind := range 9 {
		wantFine(t, "each kind", 8, 3, append(begun(), api.Deed{Kind: kind}))
	}
}

func TestPlayOfWrongClientsInDeeds(t *testing.T) {
	for _, kind := range []int{1, 2, 5} {
		for _, who := range []int{-1, 3, 4, 8, math.MinInt, math.MaxInt} {
			for _, ahead := range []script{nil, begun()} {
				wantRefusedNext(t, "no client", ahead, api.Deed{Kind: kind, Who: who}, api.ErrRange)
			}
		}
		wantFine(t, "the last client", 8, 3, append(begun(), api.Deed{Kind: kind, Who: 2}))
	}
	// The others are of no client of their own.
	for _, kind := range []int{0, 3, 4, 6, 7, 8} {
		for _, who := range []int{-1, 3, math.MinInt, math.MaxInt} {
			wantFine(t, "whoever it is", 8, 3, append(begun(), api.Deed{Kind: kind, Who: who}))
		}
	}
}

func TestPlayOfWrongNumbersInDeeds(t *testing.T) {
	for kind := range 2 {
		for _, n := range []int{-1, 1000001, math.MinInt, math.MaxInt} {
			for _, ahead := range []script{nil, begun()} {
				wantRefusedNext(t, "a wrong step", ahead, api.Deed{Kind: kind, Who: kind, N: n}, api.ErrRange)
			}
		}
		for _, n := range []int{0, 1, 1000000} {
			wantFine(t, "a step", 8, 3, append(begun(), api.Deed{Kind: kind, Who: kind, N: n}))
		}
	}
	// What is sent and forgotten has no number.
	for _, kind := range []int{2, 5} {
		for _, n := range []int{-1, 1000001, math.MinInt, math.MaxInt} {
			wantFine(t, "whichever number", 8, 3, append(begun(), api.Deed{Kind: kind, Who: 1, N: n}))
		}
	}
}

func TestPlayOfWhatIsNotOnItsWay(t *testing.T) {
	onWay := map[int]int{3: 2, 6: 2, 7: 2, 4: 1, 8: 1}
	for kind, many := range onWay {
		for _, n := range []int{-1, many, many + 1, 100, math.MinInt, math.MaxInt} {
			wantRefusedNext(t, "what is not on its way", begun(), api.Deed{Kind: kind, N: n}, api.ErrRange)
		}
		for n := range many {
			wantFine(t, "what is on its way", 8, 3, append(begun(), api.Deed{Kind: kind, N: n}))
		}
		wantRefusedNext(t, "what is not on its way at first", nil, api.Deed{Kind: kind}, api.ErrRange)
	}
	for _, kind := range []int{3, 7} {
		gone := script{send(0), {Kind: kind}}
		wantRefusedNext(t, "a wish that came or is lost", gone, wishComes(0), api.ErrRange)
	}
	for _, kind := range []int{4, 8} {
		gone := script{send(0), wishComes(0), {Kind: kind}}
		wantRefusedNext(t, "a reply that came or is lost", gone, replyComes(0), api.ErrRange)
	}
	refused := inTurn(asked(0), script{send(1), wishComes(0)})
	wantRefusedNext(t, "a reply to a wish that was refused", refused, replyComes(0), api.ErrRange)
}

func TestPlayOfClocksBeyond(t *testing.T) {
	for kind := range 2 {
		on := func(n int) api.Deed { return api.Deed{Kind: kind, Who: kind, N: n} }
		last := times(900, script{on(1000000)})
		wantRefusedNext(t, "a clock at 900000001", last, on(1), api.ErrMuch)
		wantRefusedNext(t, "a clock at 901000000", last, on(1000000), api.ErrMuch)
		wantRefusedNext(t, "a wrong step of the last clock", last, on(1000001), api.ErrRange)
		wantFine(t, "a clock that goes on by nothing", 8, 3, append(last, on(0)))
		wantFine(t, "another clock", 8, 3, append(last, api.Deed{Kind: 1, Who: 2, N: 1000000}))
		short := append(last[:899:899], on(999999))
		wantFine(t, "a clock at 900000000", 8, 3, append(short, on(1)))
		wantRefusedNext(t, "a clock beyond that by one", short, on(2), api.ErrMuch)
	}
}

func TestPlayOfTooManyWishes(t *testing.T) {
	most := times(100, script{send(1)})
	wantRefusedNext(t, "a wish more than 100", most, send(0), api.ErrMuch)
	for _, n := range []int{0, 1, 99} {
		wantRefusedNext(t, "a wish more than 100, of one once more", most, wishAgain(n), api.ErrMuch)
	}
	wantRefusedNext(t, "a wish that is not there once more", most, wishAgain(100), api.ErrRange)
	wantRefusedNext(t, "a wish of nobody", most, send(3), api.ErrRange)
	for _, d := range []api.Deed{wishComes(99), wishIsLost(0)} {
		fewer := append(most[:100:100], d)
		wantFine(t, "100 wishes again", 8, 3, append(fewer, send(0)))
		wantRefusedNext(t, "a wish more than 100 again", append(fewer, wishAgain(98)), send(0), api.ErrMuch)
	}
}

func TestPlayOfTooManyReplies(t *testing.T) {
	most := inTurn(asked(0), times(100, script{send(0), wishComes(0)}), script{send(0), send(1)})
	wantRefusedNext(t, "a reply more than 100", most, wishComes(0), api.ErrMuch)
	wantFine(t, "a wish that gets no reply", 8, 3, append(most, wishComes(1)))
	wantFine(t, "a renewal that is too late", 8, 3, append(most, tick(8), wishComes(0)))
	late := append(most, tick(8))
	wantRefusedNext(t, "a reply more than 100, of a grant", late, wishComes(1), api.ErrMuch)
	for _, d := range []api.Deed{replyComes(99), replyIsLost(0)} {
		wantFine(t, "100 replies again", 8, 3, append(most[:len(most):len(most)], d, wishComes(0)))
	}
}

// TestPlayTellsTheFirstDeed: whatever its code is, and whatever is wrong behind it.
func TestPlayTellsTheFirstDeed(t *testing.T) {
	wrong := []struct {
		d    api.Deed
		code int
	}{{api.Deed{Kind: 9}, api.ErrKind}, {tick(-1), api.ErrRange}, {send(3), api.ErrRange}, {wishComes(100), api.ErrRange}, {wishAgain(0), api.ErrMuch}}
	ahead := times(100, script{send(1)})
	for _, a := range wrong {
		for _, b := range wrong {
			s := inTurn(ahead, script{tick(1), a.d, b.d})
			wantRefused(t, "two wrong deeds", 8, 3, s, fault(a.code, 101))
		}
	}
}
