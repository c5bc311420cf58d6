package entry_test

import (
	"testing"

	"tabulary/api"
)

func TestAgreeNowhere(t *testing.T) {
	wantAgree(t, "two of other Terms", of("a", 1), of("b", 2), 0)
	wantAgree(t, "two of other Terms at each place", of("a", 1, 1, 2, 3), of("b", 2, 3, 3, 4), 0)
	wantAgree(t, "two whose Terms are the same at other places", of("a", 1, 2, 3), of("b", 2, 3, 4), 0)
	wantAgree(t, "the most there may be", many("a", api.MaxRecs, 1), many("b", api.MaxRecs, api.MaxNum), 0)
}

func TestAgreeWithAnEmptyLog(t *testing.T) {
	for _, empty := range []log{nil, {}} {
		for _, l := range rightLogs() {
			wantAgree(t, "an empty one", empty, l, 0)
		}
	}
}

func TestAgreeAtTheLastPlace(t *testing.T) {
	for _, l := range rightLogs() {
		wantAgree(t, "one and itself", l, l, len(l))
		for n := range l {
			wantAgree(t, "one and how it begins", l, l[:n], n)
		}
	}
	wantAgree(t, "two of other Texts", of("a", 1, 2, 3), of("b", 1, 2, 3), 3)
	wantAgree(t, "two at the last place alone", of("a", 1, 1, 3), of("b", 2, 2, 3), 3)
	wantAgree(t, "two at the shorter one's last place", of("a", 1, 1, 3, 4), of("b", 2, 2, 3), 3)
	wantAgree(t, "the most there may be", most("a"), most("b"), api.MaxRecs)
}

// TestAgreeBetween: at some places and not at others between them; the greatest one counts, and not where they first part.
func TestAgreeBetween(t *testing.T) {
	wantAgree(t, "two up to the first place", of("a", 1, 1, 2), of("b", 1, 2, 3), 1)
	wantAgree(t, "two up to the second place", of("a", 1, 1, 2), of("b", 1, 1, 3), 2)
	wantAgree(t, "two at the second place alone", of("a", 1, 3, 3), of("b", 2, 3, 4), 2)
	wantAgree(t, "two at the first and the third place", of("a", 1, 1, 3), of("b", 1, 2, 3), 3)
	wantAgree(t, "two at the first and the third place of four", of("a", 1, 1, 3, 3), of("b", 1, 2, 3, 4), 3)
	wantAgree(t, "two at the second and the fourth place of six", of("a", 1, 2, 2, 4, 5, 6), of("b", 2, 2, 3, 4, 6, 7), 4)
	for at := 1; at <= api.MaxRecs; at++ {
		// Up to a place with Terms that rise, and behind it with one and another Term.
		a, b := rising("a", at), rising("b", at)
		a = inTurn(a, many("a", api.MaxRecs-at, 1000))
		b = inTurn(b, many("b", api.MaxRecs-at, 2000))
		wantAgree(t, "two up to a place", a, b, at)
	}
}

// TestAgreeOfWrongLogs: what Check says, of the second one with At less 1000; that of the first one comes first.
func TestAgreeOfWrongLogs(t *testing.T) {
	wrong := wrongLogs()
	for i, w := range wrong {
		less := fault(w.want.Code, w.want.At-1000)
		for _, l := range rightLogs() {
			wantNoAgree(t, "a wrong log and a right one", w.l, l, w.want)
			wantNoAgree(t, "a right log and a wrong one", l, w.l, less)
		}
		wantNoAgree(t, "two wrong logs", w.l, wrong[(i+7)%len(wrong)].l, w.want)
		wantNoAgree(t, "two wrong logs, of which one is so twice", w.l, w.l, w.want)
	}
	wantNoAgree(t, "a right log and too many entries", nil, many("b", api.MaxRecs+1, 1), fault(api.ErrMany, -1001))
	wantNoAgree(t, "a right log and a Term of 0", nil, of("b", 0), fault(api.ErrRange, -1000))
	wantNoAgree(t, "a right log and a Term that falls", nil, of("b", 2, 1), fault(api.ErrState, -999))
	wantNoAgree(t, "a right log and a Text that is too long", nil, with(most("b"), 99, api.Entry{Term: 100, Text: long(api.MaxValue + 1)}), fault(api.ErrSize, -901))
}
