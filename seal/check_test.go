package seal_test

import (
	"slices"
	"strconv"
	"testing"

	"tabulary/api"
	"tabulary/seal"
)

// rightCopies: such as Check tells nothing of, edges among them.
func rightCopies() []api.Copy {
	most, longest := texts(api.MaxRecs), slices.Repeat([]string{long(api.MaxValue)}, api.MaxRecs)
	return []api.Copy{
		{}, open(0, "a"), open(1), open(1, "", "a", ""), open(api.MaxNum, "a"), open(1, most...), open(1, longest...),
		closed(0), closed(0, "a"), closed(1, "a"), closed(api.MaxNum, most...), closed(7, longest...),
		ended(1, 1), ended(2, 1, "a"), ended(api.MaxNum, 1, "a"), ended(api.MaxNum, api.MaxNum-1), ended(api.MaxNum, api.MaxNum, most...), ended(5, 5, longest...),
	}
}

// wrongCopy is one that is none, and what Check says of it.
type wrongCopy struct {
	c    api.Copy
	want api.Fault
}

// wrongRecs: records that are wrong, and what is told of them.
func wrongRecs() []wrongCopy {
	tooLong := long(api.MaxValue + 1)
	last := append(texts(api.MaxRecs-1), tooLong)
	return []wrongCopy{
		{open(1, texts(api.MaxRecs+1)...), fault(api.ErrMany, -1)},
		{open(1, texts(5000)...), fault(api.ErrMany, -1)},
		{open(1, append(last, "a")...), fault(api.ErrMany, -1)},
		{open(1, tooLong), fault(api.ErrSize, 0)},
		{open(1, "a", long(5000), "b"), fault(api.ErrSize, 1)},
		{open(1, "a", "b", tooLong, "c", tooLong), fault(api.ErrSize, 2)},
		{open(1, last...), fault(api.ErrSize, api.MaxRecs-1)},
	}
}

// wrongCopies: with one thing wrong, or with several, of which the first is told.
func wrongCopies() []wrongCopy {
	out := wrongRecs()
	some := [][]string{nil, {"a"}, texts(api.MaxRecs + 1), {"a", long(api.MaxValue + 1)}}
	for _, recs := range some {
		for _, n := range outside() {
			for _, c := range []api.Copy{open(n, recs...), closed(n, recs...), ended(n, 0, recs...), ended(n, 1, recs...), ended(n, n, recs...), ended(5, n, recs...), {Epoch: 5, Ended: n, Recs: recs}, {Epoch: n, Ended: 6, Recs: recs}} {
				out = append(out, wrongCopy{c, fault(api.ErrRange, -1)})
			}
		}
		for _, c := range []api.Copy{ended(0, 1, recs...), ended(5, 6, recs...), ended(0, api.MaxNum, recs...), ended(api.MaxNum-1, api.MaxNum, recs...), {Epoch: 5, Ended: 6, Recs: recs}, {Epoch: 5, Ended: 5, Recs: recs}, {Epoch: 5, Ended: 1, Recs: recs}, {Epoch: api.MaxNum, Ended: api.MaxNum, Recs: recs}} {
			out = append(out, wrongCopy{c, fault(api.ErrState, -1)})
		}
	}
	return out
}

func TestCheckOfWhatIsFine(t *testing.T) {
	for _, c := range rightCopies() {
		wantFault(t, "Check", seal.Check(c), api.Fault{})
	}
}

func TestCheckOfWhatIsNone(t *testing.T) {
	for i, w := range wrongCopies() {
		wantFault(t, "Check of wrong copy "+strconv.Itoa(i), seal.Check(w.c), w.want)
	}
}

// change is one of Append, Close and End.
type change struct {
	what string
	do   func(c api.Copy, epoch int) (api.Copy, api.Fault)
}

func appending(what string, at int, rec string) change {
	return change{"Append of " + what, func(c api.Copy, epoch int) (api.Copy, api.Fault) { return seal.Append(c, epoch, at, rec) }}
}

func ending(what string, recs ...string) change {
	return change{"End with " + what, func(c api.Copy, epoch int) (api.Copy, api.Fault) { return seal.End(c, epoch, recs) }}
}

// changes: with what is right, and with what is wrong.
func changes() []change {
	return []change{
		{"Close", seal.Close}, appending("the first record", 0, "a"), appending("the second record", 1, "b"), appending("another record", 0, "z"), appending("a record that is no place", -1, "a"), appending("a record that is too long", 0, long(api.MaxValue+1)),
		ending("nothing"), ending("a record", "a"),
	}
}

// changesOfWrongRecs: End with too many, or too long ones.
func changesOfWrongRecs() []change {
	return []change{ending("too many", texts(api.MaxRecs+1)...), ending("one that is too long", "a", long(api.MaxValue+1))}
}

// TestChangesTellFirstWhatCheckSays: whatever the epoch and all else is.
func TestChangesTellFirstWhatCheckSays(t *testing.T) {
	for _, w := range wrongCopies() {
		for _, ch := range append(changes(), changesOfWrongRecs()...) {
			for _, epoch := range []int{-1, 0, 1, w.c.Epoch - 1, w.c.Epoch, api.MaxNum, api.MaxNum + 1} {
				got, f := ch.do(w.c, epoch)
				wantNoCopy(t, ch.what, got, f, w.want)
			}
		}
	}
}

// TestChangesInAWrongEpoch: one that is none comes ahead of all that is wrong with what is asked.
func TestChangesInAWrongEpoch(t *testing.T) {
	for _, c := range rightCopies() {
		for _, ch := range append(changes(), changesOfWrongRecs()...) {
			for _, epoch := range append(outside(), 0) {
				got, f := ch.do(c, epoch)
				wantNoCopy(t, ch.what, got, f, fault(api.ErrRange, -1))
			}
		}
	}
}

// TestChangesInAnOlderEpoch: one below the copy's own, also where the copy is closed, or what is asked is wrong; but for what End is given.
func TestChangesInAnOlderEpoch(t *testing.T) {
	for _, epoch := range []int{2, 3, api.MaxNum} {
		for _, c := range []api.Copy{open(epoch), open(epoch, "a"), closed(epoch, "a"), ended(epoch, 1, "a"), ended(epoch, epoch, "a"), open(epoch, texts(api.MaxRecs)...)} {
			for _, ch := range changes() {
				for _, older := range []int{1, epoch - 1} {
					got, f := ch.do(c, older)
					wantNoCopy(t, ch.what, got, f, fault(api.ErrStale, -1))
				}
			}
		}
	}
}

// TestEpochBehindChanges: it is the one in which the change came, at the copy's own and above it.
func TestEpochBehindChanges(t *testing.T) {
	for _, own := range []int{0, 1, 5, api.MaxNum} {
		for _, epoch := range []int{1, 5, 6, api.MaxNum} {
			if epoch < own {
				continue
			}
			got, f := seal.Append(open(own, "a"), epoch, 1, "b")
			wantCopy(t, "Append", got, f, open(epoch, "a", "b"))
			got, f = seal.Append(open(own, "a"), epoch, 0, "a")
			wantCopy(t, "Append of what is there", got, f, open(epoch, "a"))
			got, f = seal.Close(open(own, "a"), epoch)
			wantCopy(t, "Close", got, f, closed(epoch, "a"))
			got, f = seal.End(open(own, "a"), epoch, []string{"b"})
			wantCopy(t, "End", got, f, ended(epoch, epoch, "b"))
		}
	}
}
