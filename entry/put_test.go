package entry_test

import (
	"strconv"
	"testing"

	"tabulary/api"
)

// five: entries of Terms of which some are alike.
func five() log { return of("l", 1, 1, 3, 3, 5) }

// TestPutBehindTheEnd: all of it is put.
func TestPutBehindTheEnd(t *testing.T) {
	wantPut(t, "one entry", five(), 5, 5, of("m", 5), inTurn(five(), of("m", 5)))
	wantPut(t, "one entry of a later Term", five(), 5, 5, of("m", 9), inTurn(five(), of("m", 9)))
	wantPut(t, "some entries", five(), 5, 5, of("m", 5, 6, api.MaxNum), inTurn(five(), of("m", 5, 6, api.MaxNum)))
	wantPut(t, "the longest Text", five(), 5, 5, log{{Term: 5, Text: long(api.MaxValue)}}, inTurn(five(), log{{Term: 5, Text: long(api.MaxValue)}}))
	wantPut(t, "a Text without bytes", five(), 5, 5, log{{Term: 5}}, inTurn(five(), log{{Term: 5}}))
}

// TestPutIntoAnEmptyLog: behind 0, of the Term 0.
func TestPutIntoAnEmptyLog(t *testing.T) {
	for _, empty := range []log{nil, {}} {
		for _, more := range rightLogs() {
			wantPut(t, "something into an empty log", empty, 0, 0, more, more)
		}
	}
}

// TestPutNothing: the log stays, behind each of its places.
func TestPutNothing(t *testing.T) {
	for _, l := range rightLogs() {
		for _, nothing := range []log{nil, {}} {
			wantPut(t, "nothing behind 0", l, 0, 0, nothing, l)
			for i, e := range l {
				wantPut(t, "nothing behind "+strconv.Itoa(i+1), l, i+1, e.Term, nothing, l)
			}
		}
	}
}

// TestPutWhereThereIsNoSuchEntry: another Term at each place, and places behind the last one.
func TestPutWhereThereIsNoSuchEntry(t *testing.T) {
	mores := []log{nil, {}, of("m", 1), of("m", 9, 9), of("m", 1, 1, 3, 3, 5), most("m"), many("m", api.MaxRecs, 1)}
	for _, l := range rightLogs() {
		for _, more := range mores {
			for _, term := range []int{1, 2, 3, 5, api.MaxNum} {
				wantNotPut(t, "something behind 0 of another Term", l, 0, term, more)
			}
			for i, e := range l {
				for _, term := range []int{0, e.Term - 1, min(e.Term+1, api.MaxNum-1)} {
					wantNotPut(t, "something behind a place of another Term", l, i+1, term, more)
				}
			}
			for _, at := range []int{len(l) + 1, len(l) + 2, 1000, api.MaxNum} {
				for _, term := range []int{0, 1, 2, 5, 100, api.MaxNum} {
					wantNotPut(t, "something behind no place", l, at, term, more)
				}
			}
		}
	}
}

// TestPutWhatIsThereAlready: it stays with its Text, and so does all behind it.
func TestPutWhatIsThereAlready(t *testing.T) {
	for _, l := range []log{five(), of("l", 1), many("l", api.MaxRecs, 2), most("l")} {
		for at := range len(l) + 1 {
			term := byPlace(l)[at].Term
			for many := range len(l) - at + 1 {
				more := with(l, 0, l[0])[at : at+many]
				for i := range more {
					more[i].Text = "m"
				}
				wantPut(t, "what is there already", l, at, term, more, l)
			}
		}
	}
}

// TestPutWhereTheFirstHasAnotherTerm: that one and all behind it go.
func TestPutWhereTheFirstHasAnotherTerm(t *testing.T) {
	for _, c := range []struct {
		at, term   int
		more, want log
	}{
		{0, 0, of("m", 2), of("m", 2)},
		{0, 0, of("m", 2, 3, 3, 3, 5), of("m", 2, 3, 3, 3, 5)},
		{0, 0, of("m", 2, 2, 3, 3, 5, 6, 7), of("m", 2, 2, 3, 3, 5, 6, 7)},
		{1, 1, of("m", 2), inTurn(five()[:1], of("m", 2))},
		{1, 1, of("m", 3, 3, 3, 5), inTurn(five()[:1], of("m", 3, 3, 3, 5))},
		{2, 1, of("m", 1), inTurn(five()[:2], of("m", 1))},
		{2, 1, of("m", 1, 3), inTurn(five()[:2], of("m", 1, 3))},
		{2, 1, of("m", 4, 4, 4, 4), inTurn(five()[:2], of("m", 4, 4, 4, 4))},
		{3, 3, of("m", 4, 5), inTurn(five()[:3], of("m", 4, 5))},
		{4, 3, of("m", 3), inTurn(five()[:4], of("m", 3))},
		{4, 3, of("m", 4, 4), inTurn(five()[:4], of("m", 4, 4))},
		{4, 3, of("m", api.MaxNum), inTurn(five()[:4], of("m", api.MaxNum))},
	} {
		wantPut(t, told(c.more)+" behind "+strconv.Itoa(c.at), five(), c.at, c.term, c.more, c.want)
	}
}

// TestPutWhereAMiddleOneHasAnotherTerm: those ahead of it stay, with their Texts; the others go.
func TestPutWhereAMiddleOneHasAnotherTerm(t *testing.T) {
	for _, c := range []struct {
		at, term   int
		more, want log
	}{
		{0, 0, of("m", 1, 2), inTurn(five()[:1], of("m", 1, 2)[1:])},
		{0, 0, of("m", 1, 1, 2), inTurn(five()[:2], of("m", 1, 1, 2)[2:])},
		{0, 0, of("m", 1, 2, 3, 3, 5), inTurn(five()[:1], of("m", 1, 2, 3, 3, 5)[1:])},
		{1, 1, of("m", 1, 2, 3), inTurn(five()[:2], of("m", 1, 2, 3)[1:])},
		{1, 1, of("m", 1, 3, 4, 5, 5, 5), inTurn(five()[:3], of("m", 1, 3, 4, 5, 5, 5)[2:])},
		{1, 1, of("m", 1, 3, 3, 4), inTurn(five()[:4], of("m", 1, 3, 3, 4)[3:])},
		{2, 1, of("m", 3, 4), inTurn(five()[:3], of("m", 3, 4)[1:])},
		{2, 1, of("m", 3, 3, 3), inTurn(five()[:4], of("m", 3, 3, 3)[2:])},
		{3, 3, of("m", 3, 6, 7, 8), inTurn(five()[:4], of("m", 3, 6, 7, 8)[1:])},
	} {
		wantPut(t, told(c.more)+" behind "+strconv.Itoa(c.at), five(), c.at, c.term, c.more, c.want)
	}
}

// TestPutBeyondTheEnd: of what is there already, and goes on.
func TestPutBeyondTheEnd(t *testing.T) {
	behind := of("m", 1, 1, 3, 3, 5, 5, 8)
	for at := range 6 {
		term := byPlace(five())[at].Term
		wantPut(t, "more beyond the end", five(), at, term, behind[at:], inTurn(five(), behind[5:]))
		wantPut(t, "one beyond the end", five(), at, term, behind[at:6], inTurn(five(), behind[5:6]))
	}
}

// TestPutOfMaxRecs: so many come out, and one more.
func TestPutOfMaxRecs(t *testing.T) {
	full := many("l", api.MaxRecs, 2)
	wantPut(t, "as many as there may be", nil, 0, 0, most("m"), most("m"))
	for _, n := range []int{0, 1, 2, 50, 98, 99, 100} {
		l, left := full[:n], api.MaxRecs-n
		term := byPlace(l)[n].Term
		wantPut(t, "what fills a log", l, n, term, many("m", left, 3), inTurn(l, many("m", left, 3)))
		wantPut(t, "what stands instead", full, n, byPlace(full)[n].Term, many("m", left, 3), inTurn(l, many("m", left, 3)))
		wantPut(t, "what is there", full, n, byPlace(full)[n].Term, many("m", left, 2), full)
		if n == 0 {
			continue
		}
		tooMany := fault(api.ErrMany, -1)
		wantRefused(t, "one more than fills a log", l, n, term, many("m", left+1, 3), tooMany)
		wantRefused(t, "far more than fill a log", l, n, term, many("m", api.MaxRecs, 3), fault(api.ErrMany, -1))
		wantRefused(t, "one more, instead", full, n, term, many("m", left+1, 3), tooMany)
		wantRefused(t, "one more behind what is there", full, n, term, many("m", left+1, 2), tooMany)
		wantNotPut(t, "one more, behind no such entry", l, n, term+1, many("m", left+1, 3))
	}
	wantPut(t, "one in the stead of many", full, 1, 2, of("m", 3), inTurn(full[:1], of("m", 3)))
}

// TestPutWhatIsNoLog: Terms that fall from the place on.
func TestPutWhatIsNoLog(t *testing.T) {
	falls := fault(api.ErrState, -1)
	wantRefused(t, "a lesser Term at the end", five(), 5, 5, of("m", 4), falls)
	wantRefused(t, "a lesser Term at the end, and greater ones", five(), 5, 5, of("m", 1, 5, 6), falls)
	wantRefused(t, "a lesser Term amid", five(), 3, 3, of("m", 2), falls)
	wantRefused(t, "a lesser Term amid, and what is there", five(), 3, 3, of("m", 2, 5), falls)
	wantRefused(t, "a lesser Term ahead of the last one", five(), 4, 3, of("m", 1), falls)
	wantRefused(t, "1 behind MaxNum", of("l", api.MaxNum), 1, api.MaxNum, of("m", 1), falls)
	wantRefused(t, "MaxNum less 1 behind MaxNum", of("l", api.MaxNum), 1, api.MaxNum, of("m", api.MaxNum-1), falls)
	wantRefused(t, "as many as there may be, which fall", many("l", 50, 5), 50, 5, many("m", 50, 4), falls)
	wantNotPut(t, "a lesser Term behind no such entry", five(), 5, 4, of("m", 4))
	wantNotPut(t, "a lesser Term behind no place", five(), 6, 5, of("m", 4))
	wantPut(t, "a lesser Term than what goes", five(), 4, 3, of("m", 4), inTurn(five()[:4], of("m", 4)))
	wantPut(t, "a lesser Term than all that go", of("l", 9, 9), 0, 0, of("m", 1), of("m", 1))
}

// TestPutOfTooManyThatFall: the former is told.
func TestPutOfTooManyThatFall(t *testing.T) {
	for _, n := range []int{1, 50, 99, 100} {
		l := many("l", n, 5)
		wantRefused(t, "too many that fall", l, n, 5, many("m", api.MaxRecs-n+1, 4), fault(api.ErrMany, -1))
		if n < api.MaxRecs {
			wantRefused(t, "just as many that fall", l, n, 5, many("m", api.MaxRecs-n, 4), fault(api.ErrState, -1))
		}
	}
}

// TestPutOfWrongNumbers: at ahead of term, and both ahead of what comes out, or does not.
func TestPutOfWrongNumbers(t *testing.T) {
	for _, l := range []log{nil, five(), many("l", api.MaxRecs, 5)} {
		for _, more := range []log{nil, of("m", 1), of("m", 5, 6), most("m")} {
			for _, wrong := range outside() {
				for _, right := range []int{0, 1, 5, len(l), api.MaxNum} {
					wantRefused(t, "something behind a wrong place", l, wrong, right, more, fault(api.ErrRange, -1))
					wantRefused(t, "something of a wrong Term", l, right, wrong, more, fault(api.ErrRange, -2))
				}
				for _, other := range outside() {
					wantRefused(t, "something behind a wrong place of a wrong Term", l, wrong, other, more, fault(api.ErrRange, -1))
				}
			}
		}
	}
}

// TestPutOfWrongLogs: what Check says, of the second one with At less 1000; that of the first one comes first, and both ahead of the numbers.
func TestPutOfWrongLogs(t *testing.T) {
	wrong := wrongLogs()
	for i, w := range wrong {
		less := fault(w.want.Code, w.want.At-1000)
		for _, at := range append(outside(), 0, 1, api.MaxNum) {
			for _, term := range append(outside(), 0, 1, api.MaxNum) {
				wantRefused(t, "a right log into a wrong one", w.l, at, term, five(), w.want)
				wantRefused(t, "a wrong log into a right one", five(), at, term, w.l, less)
				wantRefused(t, "a wrong log into a wrong one", w.l, at, term, wrong[(i+7)%len(wrong)].l, w.want)
			}
		}
		wantRefused(t, "a wrong log behind the end", five(), 5, 5, w.l, less)
		wantRefused(t, "a wrong log into a full one", most("l"), 100, 100, w.l, less)
	}
	wantRefused(t, "too many entries", nil, 0, 0, many("m", api.MaxRecs+1, 1), fault(api.ErrMany, -1001))
	wantRefused(t, "a Term of 0", nil, 0, 0, of("m", 0), fault(api.ErrRange, -1000))
	wantRefused(t, "a Term that falls", nil, 0, 0, of("m", 2, 1), fault(api.ErrState, -999))
	wantRefused(t, "a Text that is too long", nil, 0, 0, with(most("m"), 99, api.Entry{Term: 100, Text: long(api.MaxValue + 1)}), fault(api.ErrSize, -901))
}
