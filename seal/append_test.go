package seal_test

import (
	"math"
	"testing"

	"tabulary/api"
	"tabulary/seal"
)

func wantAppended(t *testing.T, what string, c api.Copy, at int, rec string, want api.Copy) {
	t.Helper()
	got, f := seal.Append(c, max(c.Epoch, 1), at, rec)
	wantCopy(t, "Append of "+what, got, f, want)
}

func wantNotAppended(t *testing.T, what string, c api.Copy, at int, rec string, code int) {
	t.Helper()
	got, f := seal.Append(c, max(c.Epoch, 1), at, rec)
	wantNoCopy(t, "Append of "+what, got, f, fault(code, -2))
}

func TestAppend(t *testing.T) {
	wantAppended(t, "the first one", api.Copy{}, 0, "a", open(1, "a"))
	wantAppended(t, "the first one, in a later epoch", open(7), 0, "a", open(7, "a"))
	wantAppended(t, "one more", open(1, "a"), 1, "b", open(1, "a", "b"))
	wantAppended(t, "the same text once more", open(1, "a"), 1, "a", open(1, "a", "a"))
	wantAppended(t, "no bytes", open(1, "a"), 1, "", open(1, "a", ""))
	wantAppended(t, "all bytes", open(1), 0, "\x00\xff\n ä", open(1, "\x00\xff\n ä"))
	wantAppended(t, "MaxValue bytes", open(1, "a"), 1, long(api.MaxValue), open(1, "a", long(api.MaxValue)))
	wantAppended(t, "the last one of MaxRecs", open(1, texts(api.MaxRecs)[:api.MaxRecs-1]...), api.MaxRecs-1, texts(api.MaxRecs)[api.MaxRecs-1], open(1, texts(api.MaxRecs)...))
}

// TestAppendOfWhatIsThere: nothing more happens, also where there is no room for more.
func TestAppendOfWhatIsThere(t *testing.T) {
	for _, n := range []int{1, 2, 3, api.MaxRecs - 1, api.MaxRecs} {
		c := open(1, texts(n)...)
		for at, rec := range texts(n) {
			wantAppended(t, "what is there", c, at, rec, c)
		}
	}
	wantAppended(t, "no bytes, which are there", open(1, "", "a"), 0, "", open(1, "", "a"))
	got, f := seal.Append(open(1, "a", "b"), 4, 0, "a")
	wantCopy(t, "Append of what is there, in a later epoch", got, f, open(4, "a", "b"))
}

func TestAppendToAClosedCopy(t *testing.T) {
	for _, c := range []api.Copy{closed(0), closed(1, "a"), ended(3, 2, "a"), ended(3, 3, "a"), closed(1, texts(api.MaxRecs)...)} {
		for _, at := range []int{-1, 0, 1, len(c.Recs), len(c.Recs) + 1, math.MaxInt} {
			for _, rec := range []string{"a", "b", long(api.MaxValue + 1)} {
				wantNotAppended(t, "something to a closed copy", c, at, rec, api.ErrState)
			}
		}
	}
}

func TestAppendOfWhatIsTooLong(t *testing.T) {
	for _, c := range []api.Copy{{}, open(1, "a"), open(1, texts(api.MaxRecs)...)} {
		for _, at := range []int{-1, 0, len(c.Recs), len(c.Recs) + 1} {
			wantNotAppended(t, "one byte too many", c, at, long(api.MaxValue+1), api.ErrSize)
			wantNotAppended(t, "far too many bytes", c, at, long(100000), api.ErrSize)
		}
	}
}

func TestAppendAtNoPlace(t *testing.T) {
	for _, c := range []api.Copy{{}, open(1, "a"), open(1, "a", "b"), open(1, texts(api.MaxRecs)...)} {
		for _, at := range []int{-1, len(c.Recs) + 1, len(c.Recs) + 2, math.MinInt, math.MaxInt} {
			wantNotAppended(t, "one at no place", c, at, "a", api.ErrRange)
		}
	}
}

func TestAppendWhereAnotherOneIs(t *testing.T) {
	for _, n := range []int{1, 2, api.MaxRecs} {
		for at := range n {
			for _, rec := range []string{"z", "", "r", texts(n + 1)[at+1], texts(n)[at] + "0"} {
				wantNotAppended(t, "another one", open(1, texts(n)...), at, rec, api.ErrFalse)
			}
		}
	}
	wantNotAppended(t, "something where no bytes are", open(1, ""), 0, "a", api.ErrFalse)
}

func TestAppendWhereThereAreMaxRecs(t *testing.T) {
	c := open(1, texts(api.MaxRecs)...)
	for _, rec := range []string{"a", "", texts(api.MaxRecs)[api.MaxRecs-1], long(api.MaxValue)} {
		wantNotAppended(t, "one more than MaxRecs", c, api.MaxRecs, rec, api.ErrMany)
	}
}

// TestAppendOneBehindTheOther: up to MaxRecs, each one twice.
func TestAppendOneBehindTheOther(t *testing.T) {
	c := api.Copy{}
	for at, rec := range texts(api.MaxRecs) {
		wantNotAppended(t, "one too early", c, at+1, rec, api.ErrRange)
		for range 2 {
			got, f := seal.Append(c, 1, at, rec)
			wantCopy(t, "Append", got, f, open(1, texts(at+1)...))
			c = got
		}
	}
}
