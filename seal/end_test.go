package seal_test

import (
	"testing"

	"tabulary/api"
	"tabulary/seal"
)

func TestClose(t *testing.T) {
	for _, c := range rightCopies() {
		for _, epoch := range []int{max(c.Epoch, 1), api.MaxNum} {
			want := c
			want.Closed, want.Epoch = true, epoch
			got, f := seal.Close(c, epoch)
			wantCopy(t, "Close", got, f, want)
		}
	}
}

// TestCloseTwice: by the same one, by a later one, and by one that comes too late.
func TestCloseTwice(t *testing.T) {
	c, f := seal.Close(open(1, "a", "b"), 3)
	wantCopy(t, "Close", c, f, closed(3, "a", "b"))
	again, f := seal.Close(c, 3)
	wantCopy(t, "Close in the same epoch", again, f, closed(3, "a", "b"))
	later, f := seal.Close(again, 9)
	wantCopy(t, "Close in a later epoch", later, f, closed(9, "a", "b"))
	none, f := seal.Close(later, 8)
	wantNoCopy(t, "Close in an older epoch", none, f, fault(api.ErrStale, -1))
	was, f := seal.Close(ended(9, 4, "a"), 12)
	wantCopy(t, "Close of what was ended", was, f, ended(12, 4, "a"))
}

// TestEnd: whatever the copy was, it is closed, and has the records that it is given, and no others.
func TestEnd(t *testing.T) {
	for _, c := range rightCopies() {
		for _, recs := range [][]string{nil, {}, {"a"}, {"a", "", "b"}, texts(api.MaxRecs), {long(api.MaxValue)}} {
			for _, epoch := range []int{max(c.Epoch, 1), api.MaxNum} {
				got, f := seal.End(c, epoch, recs)
				wantCopy(t, "End", got, f, ended(epoch, epoch, recs...))
			}
		}
	}
}

func TestEndTwice(t *testing.T) {
	c, f := seal.End(open(1, "a", "b"), 3, []string{"a"})
	wantCopy(t, "End", c, f, ended(3, 3, "a"))
	again, f := seal.End(c, 3, []string{"a"})
	wantCopy(t, "End in the same epoch", again, f, ended(3, 3, "a"))
	later, f := seal.End(again, 4, []string{"a", "c"})
	wantCopy(t, "End in a later epoch", later, f, ended(4, 4, "a", "c"))
	none, f := seal.End(later, 3, []string{"a"})
	wantNoCopy(t, "End in an older epoch", none, f, fault(api.ErrStale, -1))
}

// wantNotEnded: at the copy's own epoch, and below it, so that what is wrong with the records comes ahead of ErrStale.
func wantNotEnded(t *testing.T, what string, recs []string, want api.Fault) {
	t.Helper()
	for _, c := range []api.Copy{open(5, "a"), closed(5, "a"), ended(5, 5, "a")} {
		for _, epoch := range []int{1, 4, 5, 6, api.MaxNum} {
			got, f := seal.End(c, epoch, recs)
			wantNoCopy(t, "End with "+what, got, f, want)
		}
	}
}

func TestEndWithTooMany(t *testing.T) {
	tooMany := texts(api.MaxRecs + 1)
	wantNotEnded(t, "one too many", tooMany, fault(api.ErrMany, -2))
	wantNotEnded(t, "far too many", texts(3000), fault(api.ErrMany, -2))
	tooMany[0] = long(api.MaxValue + 1)
	wantNotEnded(t, "too many, one of them too long", tooMany, fault(api.ErrMany, -2))
}

func TestEndWithTooLong(t *testing.T) {
	tooLong := long(api.MaxValue + 1)
	wantNotEnded(t, "one that is too long", []string{tooLong}, fault(api.ErrSize, 0))
	wantNotEnded(t, "the second one too long", []string{long(api.MaxValue), tooLong}, fault(api.ErrSize, 1))
	wantNotEnded(t, "two that are too long", []string{"a", "b", tooLong, long(9999)}, fault(api.ErrSize, 2))
	wantNotEnded(t, "the last of MaxRecs too long", append(texts(api.MaxRecs-1), tooLong), fault(api.ErrSize, api.MaxRecs-1))
}

// TestEndTellsTheFirstFault: an epoch that is none, ahead of wrong records, ahead of one that is too old.
func TestEndTellsTheFirstFault(t *testing.T) {
	for _, recs := range [][]string{texts(api.MaxRecs + 1), {long(api.MaxValue + 1)}} {
		for _, epoch := range append(outside(), 0) {
			got, f := seal.End(open(5, "a"), epoch, recs)
			wantNoCopy(t, "End", got, f, fault(api.ErrRange, -1))
		}
	}
}
