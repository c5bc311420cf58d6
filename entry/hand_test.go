package entry_test

import (
	"slices"
	"testing"

	"tabulary/api"
	"tabulary/entry"
)

// checkByHand: what the document says of Check, word by word.
func checkByHand(l log) api.Fault {
	if len(l) > 100 {
		return fault(api.ErrMany, -1)
	}
	for i := range l {
		if l[i].Term < 1 || l[i].Term > 1000000000 {
			return fault(api.ErrRange, i)
		}
		if i > 0 && l[i].Term < l[i-1].Term {
			return fault(api.ErrState, i)
		}
		if len(l[i].Text) > 200 {
			return fault(api.ErrSize, i)
		}
	}
	return api.Fault{}
}

// firstFault: that of the first log, of the second one, or of the two numbers.
func firstFault(a, b log, n, term int) api.Fault {
	if f := checkByHand(a); f.Code != 0 {
		return f
	}
	if f := checkByHand(b); f.Code != 0 {
		return fault(f.Code, f.At-1000)
	}
	if n < 0 || n > 1000000000 {
		return fault(api.ErrRange, -1)
	}
	if term < 0 || term > 1000000000 {
		return fault(api.ErrRange, -2)
	}
	return api.Fault{}
}

// byPlace: the entries by their places, as the document counts them.
func byPlace(l log) map[int]api.Entry {
	out := map[int]api.Entry{}
	for i, e := range l {
		out[i+1] = e
	}
	return out
}

// putByHand: one entry of more behind the other, at its place.
func putByHand(l log, at, term int, more log) (log, bool, api.Fault) {
	if f := firstFault(l, more, at, term); f.Code != 0 {
		return nil, false, f
	}
	places := byPlace(l)
	// No entry has the Term 0, so that this is so at 0 alone, where there is none.
	if places[at].Term != term || at > len(l) {
		return l, false, api.Fault{}
	}
	for i, e := range more {
		place := at + 1 + i
		if was, is := places[place]; is && was.Term != e.Term {
			for p := place; p <= 300; p++ {
				delete(places, p)
			}
		}
		if _, is := places[place]; !is {
			places[place] = e
		}
	}
	var out log
	for place := 1; place <= len(places); place++ {
		out = append(out, places[place])
	}
	if len(out) > 100 {
		return nil, false, fault(api.ErrMany, -1)
	}
	if checkByHand(out).Code != 0 {
		return nil, false, fault(api.ErrState, -1)
	}
	return out, true, api.Fault{}
}

func olderByHand(l log, n, term int) (bool, api.Fault) {
	if f := firstFault(l, nil, n, term); f.Code != 0 {
		return false, f
	}
	last := byPlace(l)[len(l)].Term
	if last == term {
		return len(l) < n, api.Fault{}
	}
	return last < term, api.Fault{}
}

func agreeByHand(a, b log) (int, api.Fault) {
	if f := firstFault(a, b, 0, 0); f.Code != 0 {
		return 0, f
	}
	greatest, others := 0, byPlace(b)
	for place, e := range byPlace(a) {
		if others[place].Term == e.Term {
			greatest = max(greatest, place)
		}
	}
	return greatest, api.Fault{}
}

// allLogs: every log of at most n entries whose Terms are not above most.
func allLogs(whose string, n, most int) []log {
	out := []log{nil}
	for i := 0; i < len(out); i++ {
		ahead := 1
		if l := out[i]; len(l) > 0 {
			ahead = l[len(l)-1].Term
		}
		for term := ahead; term <= most && len(out[i]) < n; term++ {
			next := append(slices.Clone(out[i]), api.Entry{Term: term})
			out = append(out, next)
		}
	}
	for _, l := range out {
		for i, e := range of(whose, make([]int, len(l))...) {
			l[i].Text = e.Text
		}
	}
	return out
}

func wantPutByHand(t *testing.T, l log, at, term int, more log) api.Fault {
	t.Helper()
	got, is, f := entry.Put(l, at, term, more)
	want, wanted, g := putByHand(l, at, term, more)
	if is != wanted || f != g || !slices.Equal(got, want) {
		t.Fatalf("Put of %s, behind %d of %d, of %s: %s, %v, %v, want %s, %v, %v", told(more), at, term, told(l), told(got), is, f, told(want), wanted, g)
	}
	return f
}

// TestEveryShortLogIsPutByHand: every two logs, behind every place, of every Term.
func TestEveryShortLogIsPutByHand(t *testing.T) {
	refused, fine := 0, 0
	for _, l := range allLogs("l", 4, 3) {
		for _, more := range allLogs("m", 4, 3) {
			for at := -1; at <= 6; at++ {
				for term := -1; term <= 4; term++ {
					switch wantPutByHand(t, l, at, term, more).Code {
					case api.OK:
						fine++
					case api.ErrState:
						refused++
					}
				}
			}
		}
	}
	if refused < 500 || fine < 5000 {
		t.Errorf("%d are refused, %d are fine", refused, fine)
	}
}

// TestEveryShortLogAgreesByHand: every two, and whether one is older.
func TestEveryShortLogAgreesByHand(t *testing.T) {
	for _, a := range allLogs("a", 5, 3) {
		for _, b := range allLogs("b", 5, 3) {
			got, f := entry.Agree(a, b)
			want, g := agreeByHand(a, b)
			if got != want || f != g {
				t.Fatalf("Agree of %s and %s: %d, %v, want %d, %v", told(a), told(b), got, f, want, g)
			}
		}
		for n := -1; n <= 7; n++ {
			for term := -1; term <= 5; term++ {
				got, f := entry.Older(a, n, term)
				want, g := olderByHand(a, n, term)
				if got != want || f != g {
					t.Fatalf("Older of %s, %d and %d: %v, %v, want %v, %v", told(a), n, term, got, f, want, g)
				}
			}
		}
	}
}

// entriesOfAllKinds: each Term that is an edge, with Texts that are.
func entriesOfAllKinds() log {
	var out log
	for _, term := range append(outside(), 0, 1, 2, api.MaxNum-1, api.MaxNum) {
		for _, size := range []int{0, api.MaxValue, api.MaxValue + 1} {
			out = append(out, api.Entry{Term: term, Text: long(size)})
		}
	}
	return out
}

// TestEveryEntryIsCheckedByHand: whatever three entries come one behind the other.
func TestEveryEntryIsCheckedByHand(t *testing.T) {
	kinds := entriesOfAllKinds()
	for _, a := range kinds {
		for _, b := range kinds {
			for _, c := range kinds {
				l := log{a, b, c}
				if got, want := entry.Check(l), checkByHand(l); got != want {
					t.Fatalf("Check of %s: %v, want %v", told(l), got, want)
				}
			}
		}
	}
}

// TestWhateverIsPutByHand: logs of whatever length, of which some have wrong entries, behind whatever place.
func TestWhateverIsPutByHand(t *testing.T) {
	s, kinds := number(3), entriesOfAllKinds()
	codes := map[int]int{}
	for range 30000 {
		l, more := anyLog(&s, "l", s.below(103)), anyLog(&s, "m", s.below(103))
		if s.below(3) > 0 {
			more = of("m", make([]int, s.below(60))...)
			from := s.below(len(l) + 1)
			for i := range more {
				more[i].Term = 1 + from + i/5
				if from+i < len(l) && s.below(50) > 0 {
					more[i].Term = l[from+i].Term
				}
			}
		}
		for _, some := range []log{l, more} {
			if len(some) > 0 && s.below(20) == 0 {
				some[s.below(len(some))] = kinds[s.below(len(kinds))]
			}
		}
		at, term := s.below(len(l)+3)-1, s.below(8)-1
		if s.below(4) > 0 {
			term = byPlace(l)[at].Term
		}
		codes[wantPutByHand(t, l, at, term, more).Code]++
		got, f := entry.Agree(l, more)
		want, g := agreeByHand(l, more)
		if got != want || f != g {
			t.Fatalf("Agree of %s and %s: %d, %v, want %d, %v", told(l), told(more), got, f, want, g)
		}
	}
	for _, code := range []int{api.OK, api.ErrMany, api.ErrRange, api.ErrState, api.ErrSize} {
		if codes[code] < 100 {
			t.Errorf("the code %d is told %d times alone", code, codes[code])
		}
	}
}
