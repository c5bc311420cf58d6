package tablet_test

import (
	"fmt"
	"math"
	"slices"
	"testing"

	"tabulary/api"
	"tabulary/file"
	"tabulary/tablet"
)

// openedByHand: the cells of a part's file.
func openedByHand(t *testing.T, a api.Tablet) list {
	t.Helper()
	if len(a.Files) != 1 {
		t.Fatalf("%d files", len(a.Files))
	}
	l, f := file.Open(a.Files[0])
	wantFault(t, "Open", f, api.Fault{})
	return l
}

// changes: what all calls that answer a tablet answer.
func changes(a api.Tablet, l list, n int) ([]api.Tablet, []any) {
	t1, seq, f1 := tablet.Put(a, l)
	t2, f2 := tablet.Sync(a)
	t3, f3 := tablet.Crash(a, n)
	t4, f4 := tablet.Flush(a, n+50)
	t5, f5 := tablet.Cut(a)
	t6, f6 := tablet.Compact(a, n, n, n+50)
	t7, f7 := tablet.Compact(a, 1, n, 100)
	t8, f8 := tablet.Part(a, "a", "x", n+50)
	t9, f9 := tablet.Part(a, "", "", 4000)
	return []api.Tablet{t1, t2, t3, t4, t5, t6, t7, t8, t9}, []any{seq, f1, f2, f3, f4, f5, f6, f7, f8, f9}
}

// everyCall: what all calls answer.
func everyCall(a api.Tablet, l list, n int) string {
	then, others := changes(a, l, n)
	value, is, f1 := tablet.Get(a, "b", "c", n)
	seen, f2 := tablet.Scan(a, api.Ask{From: "a", To: "x", Time: n, Many: n})
	row, f3 := tablet.Halve(a)
	return fmt.Sprintln(then, others, value, is, f1, seen, f2, row, f3, tablet.Check(a))
}

// TestNoCallPanics: tablets, cells and numbers of all kinds, and twice the same is answered.
func TestNoCallPanics(t *testing.T) {
	s := number(6)
	wild := api.Tablet{Log: api.Disk{Bytes: slices.Repeat([]byte{255}, 300), Kept: 7}, Files: [][]byte{nil, {0}}, Done: math.MaxInt, Since: math.MinInt}
	inputs := []api.Tablet{{}, some(), wild, {Files: make([][]byte, 3)}, {Done: api.MaxNum, Since: api.MaxNum}, {Log: logByHand(small(1, 1500)...)}}
	for range 12 {
		a := anyTablet(&s)
		inputs = append(inputs, a)
		// With a byte of it changed, and without its last bytes.
		a = deepClone(a)
		if len(a.Log.Bytes) > 0 {
			a.Log.Bytes[s.below(len(a.Log.Bytes))]++
			inputs = append(inputs, a)
		}
		if len(a.Files) > 0 {
			a = deepClone(a)
			b := a.Files[s.below(len(a.Files))]
			b[s.below(len(b))] ^= 4
			inputs = append(inputs, a)
		}
		a.Done = s.below(300)
		inputs = append(inputs, a)
	}
	lists := []list{nil, {{}}, {put("r", "c", 9, "v")}, rising(0, 25)}
	for i, a := range inputs {
		for _, n := range []int{math.MinInt, -1, 0, 1, 3, 999, api.MaxNum, math.MaxInt} {
			l := lists[(i+n)&3]
			if first, then := everyCall(a, l, n), everyCall(a, l, n); first != then {
				t.Errorf("of %s, %d is answered %s, then %s", told(a), n, first, then)
			}
		}
	}
}

// roomy: the tablet and the cells, with room behind each list in which something stands that must be neither read nor written.
func roomy(a api.Tablet, l list) (api.Tablet, list, func() string) {
	log := append(slices.Clone(a.Log.Bytes), 0, 9, 1, 1, 'r')
	files := make([][]byte, len(a.Files), len(a.Files)+2)
	for i, b := range a.Files {
		whole := append(slices.Clone(b), 1, 2, 3)
		files[i] = whole[:len(b)]
	}
	more := append(files, []byte{1}, nil)
	cells := append(slices.Clone(l), api.Cell{Row: "behind"})
	before := func() string {
		out := fmt.Sprintln(log, more, cells)
		for _, b := range more {
			out += fmt.Sprintln(b[:cap(b)])
		}
		return out
	}
	a.Log.Bytes, a.Files = log[:len(a.Log.Bytes)], files
	return a, cells[:len(l)], before
}

// TestArgumentsStay: nothing that is handed in is written to, nor what lies behind its length; and that is not read.
func TestArgumentsStay(t *testing.T) {
	s := number(7)
	inputs := []api.Tablet{some(), {}, {Files: filesOf(layers()...)}}
	for range 20 {
		inputs = append(inputs, anyTablet(&s))
	}
	for _, a := range inputs {
		for _, n := range []int{0, 1, 2, 5} {
			l := list{put("b", "c", 5, "v"), put("c", "", 7, "w")}
			room, cells, memory := roomy(a, l)
			before := memory()
			full, alone := everyCall(room, cells, n), everyCall(deepClone(a), l, n)
			if full != alone {
				t.Errorf("with room behind is answered %s, alone %s", full, alone)
			}
			if memory() != before {
				t.Errorf("of %s, what was handed in is changed", told(a))
			}
		}
	}
}

// scribble writes over all lists of a tablet, within their lengths and behind them.
func scribble(a api.Tablet) {
	scribbleBytes(a.Log.Bytes)
	for _, b := range a.Files {
		scribbleBytes(b)
	}
	files := a.Files[:cap(a.Files)]
	for i := range files {
		files[i] = nil
	}
}

func scribbleBytes(b []byte) {
	b = b[:cap(b)]
	for i := range b {
		b[i] ^= 255
	}
}

// TestAnswersAreNewMemory: a change to an answer changes no argument, and the other way round.
func TestAnswersAreNewMemory(t *testing.T) {
	l := list{put("b", "c", 5, "v")}
	for n := range 3 {
		a := some()
		answers, _ := changes(a, l, n)
		var copies []api.Tablet
		for _, b := range answers {
			copies = append(copies, deepClone(b))
		}
		scribble(a)
		for i, b := range answers {
			if !sameTablet(b, copies[i]) {
				t.Errorf("the answer %d changes with the argument", i)
			}
		}
		a = some()
		answers, _ = changes(a, l, n)
		for i, b := range answers {
			scribble(b)
			if !sameTablet(a, some()) {
				t.Fatalf("the argument changes with the answer %d", i)
			}
		}
	}
}

// TestAnswersShareNothing: also of a tablet whose lists are all in one memory.
func TestAnswersShareNothing(t *testing.T) {
	one := fileOf(50, rising(0, 3)...)
	a := api.Tablet{Log: logByHand(small(1, 2)...), Files: [][]byte{one, one, one}}
	answers, _ := changes(a, list{put("b", "c", 5, "v")}, 2)
	for i, b := range answers {
		all := append([][]byte{b.Log.Bytes}, b.Files...)
		for j := range all {
			before := deepClone(api.Tablet{Files: all})
			scribbleBytes(all[j])
			for k := range all {
				if k != j && !slices.Equal(all[k], before.Files[k]) {
					t.Errorf("two lists of the answer %d share memory", i)
				}
			}
		}
	}
	seen, _ := tablet.Scan(a, api.Ask{Time: 9, Many: 9})
	before := slices.Clone(seen)
	scribble(a)
	wantCells(t, "what was seen", seen, api.Fault{}, before)
}
