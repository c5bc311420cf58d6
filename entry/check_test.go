package entry_test

import (
	"math"
	"slices"
	"strconv"
	"strings"
	"testing"

	"tabulary/api"
	"tabulary/entry"
)

// most: as many entries as there may be, of Terms that rise.
func most(whose string) log { return rising(whose, api.MaxRecs) }

// rightLogs: such as Check tells nothing of, edges among them.
func rightLogs() []log {
	return []log{
		nil, {}, of("l", 1), of("l", api.MaxNum), of("l", 1, 1), of("l", 1, 2), of("l", 1, api.MaxNum), of("l", api.MaxNum, api.MaxNum), of("l", 3, 3, 4, 4, 9),
		{{Term: 1}}, {{Term: 1, Text: long(api.MaxValue)}}, {{Term: 1, Text: strings.Repeat("é", api.MaxValue/2)}}, {{Term: 1, Text: "\x00\xff"}, {Term: 1}},
		most("l"), many("l", api.MaxRecs, 1), many("l", api.MaxRecs, api.MaxNum), many("l", api.MaxRecs-1, 7),
		slices.Repeat(log{{Term: 5, Text: long(api.MaxValue)}}, api.MaxRecs),
	}
}

// wrongLog is one that is none, and what Check says of it.
type wrongLog struct {
	l    log
	want api.Fault
}

// wrongTerms: logs with a Term that may not be, or that falls.
func wrongTerms() []wrongLog {
	var out []wrongLog
	for _, term := range append(outside(), 0, api.MaxNum+2, math.MinInt+1) {
		for _, i := range []int{0, 1, 50, api.MaxRecs - 1} {
			out = append(out, wrongLog{with(most("l"), i, api.Entry{Term: term}), fault(api.ErrRange, i)})
		}
		out = append(out, wrongLog{of("l", term), fault(api.ErrRange, 0)}, wrongLog{of("l", api.MaxNum, term), fault(api.ErrRange, 1)})
	}
	return append(out,
		wrongLog{of("l", 2, 1), fault(api.ErrState, 1)},
		wrongLog{of("l", api.MaxNum, api.MaxNum-1), fault(api.ErrState, 1)},
		wrongLog{of("l", 1, 3, 3, 2, 3), fault(api.ErrState, 3)},
		wrongLog{of("l", 1, 5, 4, 5), fault(api.ErrState, 2)},
		wrongLog{with(most("l"), 1, api.Entry{Term: 99}), fault(api.ErrState, 2)},
		wrongLog{with(most("l"), api.MaxRecs-1, api.Entry{Term: 98}), fault(api.ErrState, api.MaxRecs-1)},
	)
}

// wrongTexts: logs with a Text of too many bytes, also where it has no more letters than that.
func wrongTexts() []wrongLog {
	var out []wrongLog
	for _, text := range []string{long(api.MaxValue + 1), long(100000), strings.Repeat("é", api.MaxValue/2) + "e"} {
		for _, i := range []int{0, 1, 50, api.MaxRecs - 1} {
			out = append(out, wrongLog{with(many("l", api.MaxRecs, 4), i, api.Entry{Term: 4, Text: text}), fault(api.ErrSize, i)})
		}
		out = append(out, wrongLog{log{{Term: 1, Text: text}}, fault(api.ErrSize, 0)})
	}
	return out
}

// wrongSeveral: logs with several faults, of which the first is told.
func wrongSeveral() []wrongLog {
	tooLong := long(api.MaxValue + 1)
	return []wrongLog{
		{log{{Term: 0, Text: tooLong}}, fault(api.ErrRange, 0)},
		{log{{Term: 5}, {Term: 0}}, fault(api.ErrRange, 1)},
		{log{{Term: 5}, {Term: -1, Text: tooLong}}, fault(api.ErrRange, 1)},
		{log{{Term: 5}, {Term: 4, Text: tooLong}}, fault(api.ErrState, 1)},
		{log{{Term: 5, Text: tooLong}, {Term: 0}}, fault(api.ErrSize, 0)},
		{log{{Term: 5, Text: tooLong}, {Term: 4}}, fault(api.ErrSize, 0)},
		{log{{Term: 5}, {Term: 4}, {Term: 0}}, fault(api.ErrState, 1)},
		{log{{Term: 5}, {Term: 5, Text: tooLong}, {Term: 4}, {Term: 0}}, fault(api.ErrSize, 1)},
		{log{{Term: 0}, {Term: -1}, {Term: 1, Text: tooLong}}, fault(api.ErrRange, 0)},
		{log{{Term: api.MaxNum + 1}, {Term: 1}}, fault(api.ErrRange, 0)},
		{log{{Term: 5}, {Term: 4}, {Term: 3}}, fault(api.ErrState, 1)},
	}
}

// wrongMany: more than there may be, also with faults in them.
func wrongMany() []wrongLog {
	more := many("l", api.MaxRecs+1, 1)
	var out []wrongLog
	for _, l := range []log{
		more, rising("l", api.MaxRecs+1), many("l", 5000, 1), make(log, api.MaxRecs+1), make(log, 1<<16),
		inTurn(of("l", 5, 4), most("l")), with(more, 0, api.Entry{Term: 1, Text: long(api.MaxValue + 1)}), with(more, api.MaxRecs, api.Entry{}),
	} {
		out = append(out, wrongLog{l, fault(api.ErrMany, -1)})
	}
	return out
}

func wrongLogs() []wrongLog {
	return slices.Concat(wrongTerms(), wrongTexts(), wrongSeveral(), wrongMany())
}

func TestCheckOfWhatIsFine(t *testing.T) {
	for i, l := range rightLogs() {
		wantFault(t, "Check of right log "+strconv.Itoa(i), entry.Check(l), api.Fault{})
	}
}

func TestCheckOfWhatIsNone(t *testing.T) {
	for i, w := range wrongLogs() {
		wantFault(t, "Check of wrong log "+strconv.Itoa(i), entry.Check(w.l), w.want)
	}
}

// TestCheckHoldsByHand: so that what tests by hand say is what the tables say.
func TestCheckHoldsByHand(t *testing.T) {
	for _, l := range rightLogs() {
		wantFault(t, "Check by hand of "+told(l), checkByHand(l), api.Fault{})
	}
	for _, w := range wrongLogs() {
		wantFault(t, "Check by hand of "+told(w.l), checkByHand(w.l), w.want)
	}
}
