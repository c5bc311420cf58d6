package tablet_test

import (
	"math"
	"slices"
	"strconv"
	"testing"

	"tabulary/api"
	"tabulary/tablet"
)

// wantOfAll: each call tells this fault, and nothing else, whatever else it is given.
func wantOfAll(t *testing.T, what string, a api.Tablet, want api.Fault) {
	t.Helper()
	wantFault(t, "Check of "+what, tablet.Check(a), want)
	for _, l := range []list{{put("r", "c", api.MaxNum, "v")}, nil, {{}}} {
		then, seq, f := tablet.Put(a, l)
		wantNoTablet(t, "Put of "+what, then, f, want)
		if seq != 0 {
			t.Errorf("Put of %s: %d beside a fault", what, seq)
		}
	}
	then, f := tablet.Sync(a)
	wantNoTablet(t, "Sync of "+what, then, f, want)
	then, f = tablet.Cut(a)
	wantNoTablet(t, "Cut of "+what, then, f, want)
	for _, n := range []int{0, -1} {
		then, f = tablet.Crash(a, n)
		wantNoTablet(t, "Crash of "+what, then, f, want)
		then, f = tablet.Flush(a, n+50)
		wantNoTablet(t, "Flush of "+what, then, f, want)
		then, f = tablet.Compact(a, n, n, n+50)
		wantNoTablet(t, "Compact of "+what, then, f, want)
		then, f = tablet.Part(a, "", "", n+50)
		wantNoTablet(t, "Part of "+what, then, f, want)
	}
	row, f := tablet.Halve(a)
	wantFault(t, "Halve of "+what, f, want)
	if row != "" {
		t.Errorf("Halve of %s: %q beside a fault", what, row)
	}
	for _, time := range []int{api.MaxNum, 0, -1} {
		wantNotGot(t, "Get of "+what, a, "r", "c", time, want)
		wantNotScanned(t, "Scan of "+what, a, api.Ask{Time: time, Many: time}, want)
	}
}

// wantFine: Check tells nothing.
func wantFine(t *testing.T, what string, a api.Tablet) {
	t.Helper()
	wantFault(t, "Check of "+what, tablet.Check(a), api.Fault{})
}

func TestCheckOfWhatIsFine(t *testing.T) {
	wantFine(t, "nothing", api.Tablet{})
	wantFine(t, "empty lists", api.Tablet{Log: api.Disk{Bytes: []byte{}}, Files: [][]byte{}})
	wantFine(t, "some", some())
	for _, n := range []int{0, 1, api.MaxNum} {
		wantFine(t, "Done, and no log", api.Tablet{Done: n})
		wantFine(t, "Since", api.Tablet{Since: n})
		wantFine(t, "Done and Since", api.Tablet{Done: n, Since: n})
	}
	wantFine(t, "MaxFiles files of nothing", api.Tablet{Files: filesOf(make([]list, api.MaxFiles)...)})
	wantFine(t, "files of blocks of other sizes", api.Tablet{Files: [][]byte{fileOf(50, rising(0, 30)...), fileOf(4000, rising(0, 30)...)}})
	// Cells below Since may stand there since a time at which they were not closed.
	wantFine(t, "cells of closed times", api.Tablet{Log: logByHand(small(1, 3)...), Files: filesOf(rising(0, 9)), Since: api.MaxNum})
}

func TestCheckOfNumbers(t *testing.T) {
	for _, n := range []int{-1, api.MaxNum + 1, math.MinInt, math.MaxInt} {
		for _, other := range []int{0, 5, api.MaxNum, n} {
			wantOfAll(t, "Done "+strconv.Itoa(n), api.Tablet{Done: n, Since: other}, fault(api.ErrRange, 0))
			wantOfAll(t, "Since "+strconv.Itoa(n), api.Tablet{Done: other, Since: n}, fault(api.ErrRange, 0))
		}
		a := some()
		a.Done = n
		wantOfAll(t, "Done "+strconv.Itoa(n)+" of some", a, fault(api.ErrRange, 0))
	}
}

func TestCheckOfTooManyFiles(t *testing.T) {
	want := fault(api.ErrMany, -1)
	wantOfAll(t, "a file too many", api.Tablet{Files: filesOf(make([]list, api.MaxFiles+1)...)}, want)
	wantOfAll(t, "a file too many, none of them one", api.Tablet{Files: make([][]byte, api.MaxFiles+1)}, want)
	wantOfAll(t, "far too many files", api.Tablet{Files: make([][]byte, 1<<20)}, want)
}

func TestCheckOfTheLogsBytes(t *testing.T) {
	log := logByHand(small(1, 2)...).Bytes
	long := logByHand(small(1, 4500)...).Bytes
	for _, c := range []struct {
		what string
		d    api.Disk
		code int
	}{
		{"one byte too long", api.Disk{Bytes: make([]byte, api.MaxBytes+1)}, api.ErrSize},
		{"a log that is too long", api.Disk{Bytes: long}, api.ErrSize},
		{"too long, told ahead of Kept", api.Disk{Bytes: long, Kept: -1}, api.ErrSize},
		{"Kept below 0", api.Disk{Bytes: log, Kept: -1}, api.ErrRange},
		{"Kept beyond", api.Disk{Bytes: log, Kept: len(log) + 1}, api.ErrRange},
		{"Kept beyond nothing", api.Disk{Kept: 1}, api.ErrRange},
		{"Kept far beyond", api.Disk{Bytes: log, Kept: math.MaxInt}, api.ErrRange},
		{"Kept beyond, told ahead of no log", api.Disk{Bytes: log[:9], Kept: 10}, api.ErrRange},
	} {
		wantOfAll(t, c.what, api.Tablet{Log: c.d}, fault(c.code, -2))
	}
}

func TestCheckOfNoLog(t *testing.T) {
	want := fault(api.ErrState, -2)
	good := put("r", "c", 1, "v")
	log := logByHand(note(1, good), note(2, good)).Bytes
	for k := range log {
		if k > 0 && k != len(log)/2 {
			wantOfAll(t, "a log that is cut off", api.Tablet{Log: api.Disk{Bytes: log[:k], Kept: k}, Done: 1}, want)
		}
		changed := slices.Clone(log)
		changed[k] ^= 32
		wantOfAll(t, "a log with a byte changed", api.Tablet{Log: api.Disk{Bytes: changed}, Done: 1}, want)
	}
	for what, notes := range map[string][]api.Note{
		"a note without cells":    {note(1)},
		"a note of 21 cells":      {note(1, rising(0, 21)...)},
		"the note 0":              {note(0, good)},
		"a note above MaxNum":     {note(api.MaxNum+1, good)},
		"cells that do not rise":  {note(1, good, good)},
		"a cell that is none":     {note(1, good), note(2, api.Cell{})},
		"a note twice":            {note(1, good), note(1, good)},
		"a note left out":         {note(1, good), note(3, good)},
		"notes the wrong way":     {note(2, good), note(1, good)},
		"the last does not go on": {note(1, good), note(2, good), note(1, good)},
	} {
		wantOfAll(t, what, api.Tablet{Log: logByHand(notes...), Done: 1}, want)
		wantOfAll(t, what+", behind what is done", api.Tablet{Log: logByHand(notes...), Done: 3}, want)
	}
	wantOfAll(t, "bytes of no frames", api.Tablet{Log: api.Disk{Bytes: make([]byte, 5)}}, want)
	wantOfAll(t, "a frame of no bytes", api.Tablet{Log: api.Disk{Bytes: []byte{0, 0, 0x41, 0xD9, 0x12, 0xFF}}}, want)
	wantOfAll(t, "a file", api.Tablet{Log: api.Disk{Bytes: fileOf(50, good)}}, want)
}

// TestCheckOfSeqs: the first one may be up to Done + 1, and the last one from Done on.
func TestCheckOfSeqs(t *testing.T) {
	want := fault(api.ErrState, -2)
	for _, n := range []int{1, 2, 3, 30} {
		for _, done := range []int{0, 1, 2, 29, 30, 31, 500, api.MaxNum - 31, api.MaxNum - 1, api.MaxNum} {
			for first := max(1, done-n-2); first <= min(done+4, api.MaxNum-n+1); first++ {
				a := api.Tablet{Log: logByHand(small(first, n)...), Done: done}
				if first <= done+1 && first+n-1 >= done {
					wantFine(t, "notes that go with Done", a)
				} else {
					wantFault(t, "notes that do not go with Done", tablet.Check(a), want)
				}
			}
		}
	}
	wantOfAll(t, "a first note above Done + 1", api.Tablet{Log: logByHand(small(7, 3)...), Done: 5}, want)
	wantOfAll(t, "a first note 2 of nothing", api.Tablet{Log: logByHand(small(2, 1)...)}, want)
	wantOfAll(t, "a last note below Done", api.Tablet{Log: kept(small(2, 3)...), Done: 5}, want)
	wantOfAll(t, "a last note far below Done", api.Tablet{Log: kept(small(1, 1)...), Done: api.MaxNum}, want)
}

func TestCheckOfFiles(t *testing.T) {
	fine := [][]byte{fileOf(50, rising(0, 9)...), fileOf(4000), fileOf(60, rising(3, 20)...)}
	whole := fileOf(50, rising(0, 9)...)
	for _, c := range []struct {
		what string
		b    []byte
		code int
	}{
		{"no bytes", nil, api.ErrForm},
		{"a byte too many", make([]byte, api.MaxBytes+1), api.ErrSize},
		{"a file that is cut off", whole[:len(whole)-1], api.ErrForm},
		{"a file without its first byte", whole[1:], api.ErrForm},
		{"a log", logByHand(small(1, 3)...).Bytes, api.ErrForm},
		{"a file behind another one", slices.Concat(whole, whole), api.ErrForm},
	} {
		for at := range len(fine) + 1 {
			files := slices.Concat(fine[:at], [][]byte{c.b}, fine[at:])
			wantOfAll(t, c.what+", among files", api.Tablet{Files: files}, fault(c.code, at))
			files = slices.Insert(files, at+1, nil)
			wantOfAll(t, c.what+", ahead of no bytes", api.Tablet{Files: files}, fault(c.code, at))
		}
		files := append(filesOf(make([]list, api.MaxFiles-1)...), c.b)
		wantOfAll(t, c.what+", the last of the most", api.Tablet{Files: files}, fault(c.code, api.MaxFiles-1))
	}
}

func TestCheckOfMemory(t *testing.T) {
	want := fault(api.ErrMuch, -2)
	wantFine(t, "500 cells in memory", api.Tablet{Log: logByHand(dealt(1, rising(0, 500))...)})
	wantOfAll(t, "501 cells in memory", api.Tablet{Log: logByHand(dealt(1, rising(0, 501))...)}, want)
	wantOfAll(t, "1001 cells in memory", api.Tablet{Log: logByHand(dealt(1, rising(0, 1001))...)}, want)
	wantOfAll(t, "all of 1500 cells in memory", api.Tablet{Log: logByHand(dealt(8, rising(0, 1500))...), Done: 7}, want)
	// The first note stands in the files.
	wantFine(t, "500 cells above Done", api.Tablet{Log: logByHand(dealt(1, rising(0, 520))...), Done: 1})
	wantOfAll(t, "501 cells above Done", api.Tablet{Log: logByHand(dealt(1, rising(0, 521))...), Done: 1}, want)
	wantFine(t, "1500 cells up to Done", api.Tablet{Log: logByHand(dealt(1, rising(0, 1500))...), Done: 75})
	again := append(dealt(1, rising(0, 500)), dealt(26, rising(0, 500))...)
	wantFine(t, "500 cells twice", api.Tablet{Log: logByHand(again...)})
	wantOfAll(t, "500 cells twice, and one", api.Tablet{Log: logByHand(append(again, note(51, put("r", "", 0, "")))...)}, want)
}

// TestCheckOfManyNotes: a log may have more notes than a list has things.
func TestCheckOfManyNotes(t *testing.T) {
	for _, n := range []int{api.MaxList, api.MaxList + 1, 2*api.MaxList + 1, 4000} {
		wantFine(t, "many notes", api.Tablet{Log: logByHand(small(1, n)...)})
		a := api.Tablet{Log: logByHand(small(1, n)...), Done: n - 1}
		wantFine(t, "many notes, all but one of them done", a)
		got, f := tablet.Scan(a, api.Ask{Time: 9, Many: 9})
		wantCells(t, "the last one of many", got, f, list{put("r", "", n%5, "")})
	}
	notes := append(small(1, api.MaxList), dealt(api.MaxList+1, rising(0, 495))...)
	wantFine(t, "500 cells of many notes", api.Tablet{Log: logByHand(notes...)})
	notes = append(small(1, api.MaxList), dealt(api.MaxList+1, rising(0, 496))...)
	wantOfAll(t, "501 cells of many notes", api.Tablet{Log: logByHand(notes...)}, fault(api.ErrMuch, -2))
}

func TestCheckOfCells(t *testing.T) {
	want := fault(api.ErrMuch, -1)
	half := api.MaxList / 2
	most := filesOf(rising(0, half), rising(half, half))
	wantFine(t, "MaxList cells", api.Tablet{Files: most})
	wantFine(t, "MaxList cells, in memory and a file", api.Tablet{Log: logByHand(dealt(1, rising(0, half))...), Files: most[1:]})
	wantFine(t, "MaxList cells, many of them over and over", api.Tablet{Files: append(slices.Repeat(most, 4), filesOf(rising(77, half))...)})
	more := filesOf(list{put("r", "", 0, "")})
	wantOfAll(t, "one cell more", api.Tablet{Files: append(slices.Clone(most), more...)}, want)
	wantOfAll(t, "one cell more, in memory", api.Tablet{Log: logByHand(small(1, 1)...), Files: most}, want)
	wantOfAll(t, "one cell more, among many over and over", api.Tablet{Files: append(slices.Repeat(most, 4), more...)}, want)
	all := make([]list, api.MaxFiles)
	for i := range all {
		all[i] = rising(half*i, half)
	}
	wantOfAll(t, "5000 cells", api.Tablet{Files: filesOf(all...)}, want)
	// One that is in memory in the stead of one in a file is no cell more.
	a := api.Tablet{Log: logByHand(note(1, rising(0, 1)...)), Files: most}
	wantFine(t, "one cell in the stead of another", a)
}

// TestSeveralFaults: of all that are so, the first is told that the chapter names.
func TestSeveralFaults(t *testing.T) {
	flaws := []struct {
		what string
		make func(a *api.Tablet)
		want api.Fault
	}{
		{"numbers", func(a *api.Tablet) { a.Since = -1 }, fault(api.ErrRange, 0)},
		{"too many files", func(a *api.Tablet) { a.Files = append(a.Files, make([][]byte, 11)...) }, fault(api.ErrMany, -1)},
		{"a disk that is none", func(a *api.Tablet) { a.Log.Kept = -1 }, fault(api.ErrRange, -2)},
		{"no log", func(a *api.Tablet) { a.Log.Bytes = append(a.Log.Bytes, 1) }, fault(api.ErrState, -2)},
		{"no file", func(a *api.Tablet) { a.Files[1] = a.Files[1][1:] }, fault(api.ErrForm, 1)},
		{"memory", func(a *api.Tablet) { a.Log = kept(dealt(1, rising(0, 501))...) }, fault(api.ErrMuch, -2)},
		{"cells", func(a *api.Tablet) { a.Files = filesOf(rising(2000, 500), rising(3000, 500), rising(0, 1)) }, fault(api.ErrMuch, -1)},
	}
	for set := 1; set < 1<<len(flaws); set++ {
		a := api.Tablet{Log: logByHand(small(1, 2)...), Files: filesOf(rising(0, 3), rising(2, 5))}
		what, want := "", api.Fault{}
		for i, flaw := range slices.Backward(flaws) {
			if set>>i&1 == 1 {
				flaw.make(&a)
				what, want = flaw.what+", "+what, flaw.want
			}
		}
		wantOfAll(t, what, a, want)
	}
}
