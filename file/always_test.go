package file_test

import (
	"fmt"
	"math"
	"slices"
	"testing"

	"tabulary/api"
	"tabulary/file"
)

// everyCall: what all calls that take bytes answer.
func everyCall(b []byte, row string, time int) string {
	l, f1 := file.Open(b)
	may, f2 := file.May(b, row)
	value, is, n, f3 := file.Find(b, row, "c", time)
	return fmt.Sprintln(l, f1, may, f2, value, is, n, f3)
}

// TestNoCallPanics: bytes, frames and cells of all kinds, and twice the same is answered.
func TestNoCallPanics(t *testing.T) {
	s := number(7)
	noise := func(n int) []byte {
		out := make([]byte, n)
		for i := range out {
			out[i] = byte(s.below(256) >> (n % 8))
		}
		return out
	}
	inputs := [][]byte{nil, {}, noise(api.MaxBytes), noise(api.MaxBytes + 1)}
	good := made(t, chopped(someCells(), 3)...)
	for n := range 300 {
		inputs = append(inputs, noise(n))
		inputs = append(inputs, framesOf(noise(n%40), noise(n%7), noise(n%11)))
		inputs = append(inputs, framesOf(replaced(good, n%len(good), noise(n%50))...))
		inputs = append(inputs, framesOf(good[n%len(good):]...))
	}
	for i, b := range inputs {
		row := []string{"", "b", "é", x(100)}[i%4]
		time := []int{math.MinInt, -1, 0, 4, api.MaxNum, math.MaxInt}[i%6]
		if first, then := everyCall(b, row, time), everyCall(b, row, time); first != then {
			t.Errorf("of %v is answered %s, then %s", cut(b), first, then)
		}
	}
	lists := [][]api.Cell{nil, {}, make([]api.Cell, 3), someCells(), edges(), rising(2000), make([]api.Cell, 1<<18)}
	for _, l := range lists {
		for _, size := range []int{math.MinInt, -1, 0, 50, 4000, math.MaxInt} {
			b, f := file.Make(l, size)
			again, g := file.Make(l, size)
			if !slices.Equal(b, again) || f != g {
				t.Errorf("of %v, %d is made %v, %v, then %v, %v", cut(l), size, cut(b), f, cut(again), g)
			}
		}
	}
}

// TestArgumentsStay: nothing that is handed in is written to, nor what lies behind its length; and that is not read.
func TestArgumentsStay(t *testing.T) {
	room := someCells()
	before := slices.Clone(room)
	for n := range room {
		b, f := file.Make(room[:n], 50)
		wantBytes(t, "Make", b, f, fileOf(t, cutBySize(t, slices.Clone(before[:n]), 50)...))
	}
	wantCells(t, "the cells", room, api.Fault{}, before)

	good := fileOf(t, chopped(someCells(), 4)...)
	bytes := append(slices.Clone(good), 1, 2, 3)
	for _, n := range []int{len(bytes), len(good), len(good) - 1, 0} {
		full := everyCall(bytes[:n], "b", 7)
		if short := everyCall(slices.Clone(bytes[:n]), "b", 7); full != short {
			t.Errorf("with %d bytes is answered %s, alone %s", n, full, short)
		}
	}
	wantBytes(t, "the bytes", bytes, api.Fault{}, append(slices.Clone(good), 1, 2, 3))
}

// TestAnswersAreNewMemory: a change to an answer changes no argument, and the other way round.
func TestAnswersAreNewMemory(t *testing.T) {
	cells := someCells()
	b, _ := file.Make(cells, 50)
	made := slices.Clone(b)
	for i := range cells {
		cells[i] = api.Cell{}
	}
	wantBytes(t, "Make", b, api.Fault{}, made)

	l, f := file.Open(b)
	value, _, _, _ := file.Find(b, "b", "c", 7)
	again, _ := file.Open(b)
	for i := range again[:cap(again)] {
		again[:cap(again)][i] = api.Cell{}
	}
	wantBytes(t, "the bytes", b, api.Fault{}, made)
	for i := range b {
		b[i] = 77
	}
	wantCells(t, "Open", l, f, someCells())
	if value != "seven" {
		t.Errorf("what was found is %q then", value)
	}
}
