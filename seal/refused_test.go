package seal_test

import (
	"math"
	"slices"
	"testing"

	"tabulary/api"
)

// wrongSizes: numbers of copies that there can't be.
func wrongSizes() []int { return []int{0, -1, api.MaxNodes + 1, math.MinInt, math.MaxInt} }

func TestPlayOfWrongSizes(t *testing.T) {
	want := fault(api.ErrRange, -1)
	for _, n := range wrongSizes() {
		wantRefused(t, "no copies", n, nil, nil, want)
		wantRefused(t, "no copies, and wrong deeds", n, nil, script{{Kind: 6}}, want)
		wantRefused(t, "no copies, and too many deeds", n, nil, make(script, api.MaxOps+1), want)
		wantRefused(t, "no copies, and wrong records", n, texts(api.MaxRecs+1), nil, want)
		wantRefused(t, "no copies, and a record that is too long", n, []string{long(api.MaxValue + 1)}, nil, want)
	}
	for n := 1; n <= api.MaxNodes; n++ {
		wantFine(t, "copies", n, []string{"a"}, script{write(), bring(n-1, 0)})
	}
}

func TestPlayOfTooManyDeeds(t *testing.T) {
	want := fault(api.ErrMany, -1)
	most := append(script{begin(2)}, times(api.MaxOps-1, shut(0, 0))...)
	wantFine(t, "MaxOps deeds", 3, nil, most)
	wantRefused(t, "one deed too many", 3, nil, append(most, shut(0, 0)), want)
	wantRefused(t, "one deed too many, all of them wrong", 3, nil, times(api.MaxOps+1, api.Deed{Kind: -1}), want)
	wantRefused(t, "one deed too many, and too many records", 3, texts(api.MaxRecs+1), make(script, api.MaxOps+1), want)
	wantRefused(t, "one deed too many, and a record that is too long", 3, []string{long(api.MaxValue + 1)}, make(script, api.MaxOps+1), want)
	wantRefused(t, "far too many deeds", 3, nil, make(script, 1<<20), want)
}

// TestPlayOfWrongRecords: At -2, whether they are written or not.
func TestPlayOfWrongRecords(t *testing.T) {
	tooLong := long(api.MaxValue + 1)
	for _, s := range []script{nil, {write()}, {{Kind: 6}}} {
		wantRefused(t, "a record too many", 3, texts(api.MaxRecs+1), s, fault(api.ErrMany, -2))
		wantRefused(t, "a record too many, one too long", 3, append(texts(api.MaxRecs), tooLong), s, fault(api.ErrMany, -2))
		wantRefused(t, "a record that is too long", 3, []string{tooLong}, s, fault(api.ErrSize, -2))
		wantRefused(t, "another record that is too long", 3, []string{"a", "b", tooLong, "c"}, s, fault(api.ErrSize, -2))
		wantRefused(t, "the last record of MaxRecs too long", 3, append(texts(api.MaxRecs-1), tooLong), s, fault(api.ErrSize, -2))
	}
	longest := slices.Repeat([]string{long(api.MaxValue)}, api.MaxRecs)
	wantFine(t, "MaxRecs records of MaxValue bytes", 3, longest, times(api.MaxRecs, write()))
}

// begun: of two recoveries, the first one has chosen; of three records two are written.
func begun() script {
	return inTurn(taken(), script{begin(5), begin(9)}, shutAll(0, 1, 2), script{choose(0), shut(2, 1), end(1, 0)})
}

// wantRefusedNext: a deed behind others is refused with a code, whatever stands behind it.
func wantRefusedNext(t *testing.T, what string, ahead script, d api.Deed, code int) {
	t.Helper()
	recs, want := []string{"a", "b", "c"}, fault(code, len(ahead))
	wantFine(t, "all ahead of "+what, 3, recs, ahead)
	wantRefused(t, what, 3, recs, inTurn(ahead, script{d}), want)
	wantRefused(t, what+", and more", 3, recs, inTurn(ahead, script{d, {Kind: 6}, bring(3, 0), write()}), want)
}

// wantFineNext: a deed behind begun has no fault.
func wantFineNext(t *testing.T, what string, d api.Deed) {
	t.Helper()
	wantFine(t, what, 3, []string{"a", "b", "c"}, append(begun(), d))
}

func TestPlayOfWrongKinds(t *testing.T) {
	for _, kind := range []int{-1, 6, 7, 8, math.MinInt, math.MaxInt} {
		for _, ahead := range []script{nil, begun()} {
			wantRefusedNext(t, "a wrong kind", ahead, api.Deed{Kind: kind}, api.ErrKind)
			wantRefusedNext(t, "a wrong kind of a wrong copy", ahead, api.Deed{Kind: kind, Who: -1, N: -1}, api.ErrKind)
		}
	}
	for kind, n := range []int{0, 1, 2, 1, 1, 1} {
		wantFineNext(t, "each kind", api.Deed{Kind: kind, N: n})
	}
}

func TestPlayOfWrongCopiesInDeeds(t *testing.T) {
	for _, kind := range []int{1, 3, 5} {
		for _, who := range []int{-1, 3, 4, 7, math.MinInt, math.MaxInt} {
			wantRefusedNext(t, "no copy", begun(), api.Deed{Kind: kind, Who: who}, api.ErrRange)
			wantRefusedNext(t, "no copy, and no record or recovery", begun(), api.Deed{Kind: kind, Who: who, N: 9}, api.ErrRange)
		}
		for who := range 3 {
			wantFineNext(t, "a copy", api.Deed{Kind: kind, Who: who})
		}
	}
	// The others are of no copy.
	for kind, n := range map[int]int{0: 0, 2: 2, 4: 0} {
		for _, who := range []int{-1, 3, math.MinInt, math.MaxInt} {
			wantFineNext(t, "whoever it is", api.Deed{Kind: kind, Who: who, N: n})
		}
	}
}

// TestPlayOfRecordsThatWereNotWritten: though they will be.
func TestPlayOfRecordsThatWereNotWritten(t *testing.T) {
	for _, n := range []int{-1, 2, 3, 99, math.MinInt, math.MaxInt} {
		wantRefusedNext(t, "a record that was not written", begun(), bring(0, n), api.ErrRange)
	}
	wantRefusedNext(t, "a record where none was written", nil, bring(0, 0), api.ErrRange)
	wantRefusedNext(t, "a record that was not written yet", script{write()}, bring(0, 1), api.ErrRange)
	wantFineNext(t, "the first record", bring(2, 0))
	wantFineNext(t, "the last record", bring(2, 1))
}

func TestPlayOfNoRecoveries(t *testing.T) {
	for _, kind := range []int{3, 4, 5} {
		for _, n := range []int{-1, 2, 3, 5, 9, math.MinInt, math.MaxInt} {
			wantRefusedNext(t, "no recovery", begun(), api.Deed{Kind: kind, N: n}, api.ErrRange)
		}
		wantRefusedNext(t, "a recovery where none has begun", nil, api.Deed{Kind: kind}, api.ErrRange)
		wantFineNext(t, "the first recovery", api.Deed{Kind: kind})
		wantFineNext(t, "the last recovery", api.Deed{Kind: kind, N: 1})
	}
}

func TestPlayOfNoRecordLeft(t *testing.T) {
	wantRefusedNext(t, "a record more than there are", append(begun(), write()), write(), api.ErrNone)
	wantRefused(t, "a record where there is none", 1, nil, script{write()}, fault(api.ErrNone, 0))
	wantRefused(t, "a record where there is none any more", 1, texts(api.MaxRecs), times(api.MaxRecs+1, write()), fault(api.ErrNone, api.MaxRecs))
	// What lies behind the records is none.
	wantRefused(t, "a record behind the others", 1, texts(3)[:2], times(3, write()), fault(api.ErrNone, 2))
}

func TestPlayOfWrongEpochs(t *testing.T) {
	for _, epoch := range append(outside(), 0, 1) {
		for _, ahead := range []script{nil, begun(), heals(20)} {
			wantRefusedNext(t, "a recovery in no epoch", ahead, begin(epoch), api.ErrRange)
		}
	}
	for _, epoch := range []int{2, 3, 6, api.MaxNum} {
		wantFineNext(t, "a recovery", begin(epoch))
	}
}

// heals: so many recoveries begin, in the epochs from 2 on.
func heals(n int) script {
	var out script
	for i := range n {
		out = append(out, begin(2+i))
	}
	return out
}

func TestPlayOfEpochsThatAreThere(t *testing.T) {
	wantRefusedNext(t, "a recovery in the first one's epoch", begun(), begin(5), api.ErrTwice)
	wantRefusedNext(t, "a recovery in the last one's epoch", begun(), begin(9), api.ErrTwice)
	wantRefusedNext(t, "a recovery in the last epoch again", script{begin(api.MaxNum)}, begin(api.MaxNum), api.ErrTwice)
	for epoch := 2; epoch < 22; epoch++ {
		wantRefusedNext(t, "a recovery in an epoch that is there, of 20", heals(20), begin(epoch), api.ErrTwice)
	}
}

func TestPlayOfTooManyRecoveries(t *testing.T) {
	for _, epoch := range []int{22, 23, 1000, api.MaxNum} {
		wantFine(t, "20 recoveries", 3, nil, append(heals(19), begin(epoch)))
		wantRefusedNext(t, "one recovery more than 20", heals(20), begin(epoch), api.ErrMuch)
	}
	wantFine(t, "the last of 20 recoveries", 3, nil, append(heals(20), shut(0, 19), choose(19), end(0, 19)))
	wantRefusedNext(t, "no recovery of 20", heals(20), shut(0, 20), api.ErrRange)
}

// TestPlayTellsTheFirstDeed: whatever its code is, and whatever is wrong behind it.
func TestPlayTellsTheFirstDeed(t *testing.T) {
	wrong := []struct {
		d    api.Deed
		code int
	}{{api.Deed{Kind: 6}, api.ErrKind}, {bring(3, 0), api.ErrRange}, {bring(0, 1), api.ErrRange}, {begin(1), api.ErrRange}, {choose(20), api.ErrRange}, {write(), api.ErrNone}, {begin(2), api.ErrTwice}, {begin(99), api.ErrMuch}}
	ahead := append(heals(20), write())
	for _, a := range wrong {
		for _, b := range wrong {
			s := inTurn(ahead, script{shut(0, 3), a.d, b.d})
			wantRefused(t, "two wrong deeds", 3, []string{"a"}, s, fault(a.code, 22))
		}
	}
}
