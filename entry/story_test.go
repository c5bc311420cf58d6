package entry_test

import (
	"slices"
	"testing"

	"tabulary/api"
	"tabulary/entry"
)

// TestExamples: the chapter's own.
func TestExamples(t *testing.T) {
	l := log{{Term: 1, Text: "a"}, {Term: 1, Text: "b"}}
	wantPut(t, "the example", l, 1, 1, log{{Term: 2, Text: "c"}}, log{{Term: 1, Text: "a"}, {Term: 2, Text: "c"}})
}

// wantThere: what was put is there, behind the place at, and the entries up to there are as they were.
func wantThere(t *testing.T, was log, at int, more, is log) {
	t.Helper()
	if len(is) < at+len(more) || !slices.Equal(is[:at], was[:at]) {
		t.Fatalf("%s, behind %d of %s: %s", told(more), at, told(was), told(is))
	}
	for i, e := range more {
		got := is[at+i]
		// What was there of the same Term stays as it is.
		stays := at+i < len(was) && got == was[at+i]
		if got.Term != e.Term || got != e && !stays {
			t.Fatalf("%s, behind %d of %s: %s", told(more), at, told(was), told(is))
		}
	}
}

// TestWhatIsPutIsThere: and is the same, put twice; of every two short logs, behind every place.
func TestWhatIsPutIsThere(t *testing.T) {
	for _, l := range allLogs("l", 4, 4) {
		for _, more := range allLogs("m", 4, 4) {
			for at := range len(l) + 1 {
				term := byPlace(l)[at].Term
				then, is, f := entry.Put(l, at, term, more)
				if f == fault(api.ErrState, -1) && len(more) > 0 && more[0].Term < term {
					continue
				}
				if !is || f != (api.Fault{}) {
					t.Fatalf("Put of %s behind %d of %s: %v, %v", told(more), at, told(l), is, f)
				}
				wantThere(t, l, at, more, then)
				wantPut(t, "what is put, twice", then, at, term, more, then)
				wantPut(t, "a part of what is put", then, at, term, more[:len(more)/2], then)
				if place, _ := entry.Agree(then, inTurn(l[:at], more)); place != at+len(more) {
					t.Fatalf("of %s behind %d of %s comes what agrees up to %d", told(more), at, told(l), place)
				}
			}
		}
	}
}

// TestWhatIsPutInPieces: a log that is brought in pieces, from where both part, leads to its entries, whatever was there; pieces that come once more, and late, change nothing.
func TestWhatIsPutInPieces(t *testing.T) {
	s := number(5)
	for range 2000 {
		theirs := anyLog(&s, "t", 1+s.below(api.MaxRecs))
		from := s.below(len(theirs) + 1)
		l := slices.Clone(theirs[:from])
		for range s.below(api.MaxRecs - from + 1) {
			l = append(l, api.Entry{Term: max(1, byPlace(l)[len(l)].Term) + s.below(2), Text: "l"})
		}
		// Entries of one place and Term are the same in all logs, so that this one's others may not have the Terms of theirs.
		for i := from; i < min(len(l), len(theirs)); i++ {
			if l[i].Term == theirs[i].Term {
				l = l[:i]
				break
			}
		}
		for at := from; at < len(theirs); {
			next := min(at+1+s.below(5), len(theirs))
			l = mustPut(t, l, at, theirs[:at], theirs[at:next])
			at = next
			late := s.below(at + 1)
			if then := mustPut(t, l, late, theirs[:late], theirs[late:late+s.below(at-late+1)]); !slices.Equal(then, l) {
				t.Fatalf("what comes late changes %s to %s", told(l), told(then))
			}
		}
		if !slices.Equal(l[:len(theirs)], theirs) || from < len(theirs) && len(l) > len(theirs) {
			t.Fatalf("of %s comes %s", told(theirs), told(l))
		}
		wantFault(t, "Check", entry.Check(l), api.Fault{})
	}
}

// mustPut: what comes of more, behind a place up to which another log goes.
func mustPut(t *testing.T, l log, at int, ahead, more log) log {
	t.Helper()
	out, is, f := entry.Put(l, at, byPlace(ahead)[at].Term, more)
	if !is || f != (api.Fault{}) {
		t.Fatalf("Put of %s behind %d of %s: %v, %v", told(more), at, told(l), is, f)
	}
	return out
}

// TestOneIsOlder: of two logs either one is older, or both have one last Term and as many entries; and never both are.
func TestOneIsOlder(t *testing.T) {
	logs := allLogs("l", 4, 4)
	for _, a := range logs {
		for _, b := range logs {
			lastA, lastB := byPlace(a)[len(a)].Term, byPlace(b)[len(b)].Term
			aOlder, _ := entry.Older(a, len(b), lastB)
			bOlder, _ := entry.Older(b, len(a), lastA)
			alike := lastA == lastB && len(a) == len(b)
			if aOlder && bOlder || alike == (aOlder || bOlder) {
				t.Fatalf("of %s and %s, %v and %v", told(a), told(b), aOlder, bOlder)
			}
		}
	}
}
