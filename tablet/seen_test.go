package tablet_test

import (
	"math"
	"slices"
	"testing"

	"tabulary/api"
	"tabulary/tablet"
)

// wantScan: no fault, and just these cells.
func wantScan(t *testing.T, what string, a api.Tablet, ask api.Ask, want list) {
	t.Helper()
	got, f := tablet.Scan(a, ask)
	wantCells(t, "Scan of "+what, got, f, want)
}

// wantNotScanned: just this fault.
func wantNotScanned(t *testing.T, what string, a api.Tablet, ask api.Ask, want api.Fault) {
	t.Helper()
	got, f := tablet.Scan(a, ask)
	wantFault(t, what, f, want)
	if len(got) != 0 {
		t.Errorf("%s: %d cells beside a fault", what, len(got))
	}
}

// wantGot: no fault, and just this value.
func wantGot(t *testing.T, what string, a api.Tablet, row, col string, time int, want string, wantIs bool) {
	t.Helper()
	value, is, f := tablet.Get(a, row, col, time)
	wantFault(t, what, f, api.Fault{})
	if value != want || is != wantIs {
		t.Errorf("%s: Get of %q, %q at %d: %q, %v, want %q, %v", what, row, col, time, value, is, want, wantIs)
	}
}

// wantNotGot: just this fault.
func wantNotGot(t *testing.T, what string, a api.Tablet, row, col string, time int, want api.Fault) {
	t.Helper()
	value, is, f := tablet.Get(a, row, col, time)
	wantFault(t, what, f, want)
	if value != "" || is {
		t.Errorf("%s: %q, %v beside a fault", what, value, is)
	}
}

// TestGet: of cells in memory and in two files, some in the stead of one another.
func TestGet(t *testing.T) {
	a := some()
	a.Since = 0
	for _, c := range []struct {
		row, col string
		time     int
		want     string
		is       bool
	}{
		{"a", "c", 2, "", false}, {"a", "c", 3, "four", true}, {"a", "c", 5, "four", true}, {"a", "c", 6, "", false},
		{"a", "", 5, "", false}, {"", "c", 5, "", false}, {"a", "c", api.MaxNum, "", false},
		{"b", "c", 0, "", false}, {"b", "c", 1, "one", true}, {"b", "c", 2, "four", true}, {"b", "c", 3, "four", true},
		{"b", "c", 4, "", false}, {"b", "c", 5, "six", true}, {"b", "c", api.MaxNum, "six", true},
		{"c", "", 3, "one", true}, {"c", "", 4, "", false},
		{"d", "", 5, "", false}, {"d", "", 6, "six", true}, {"e", "", 0, "one", true}, {"f", "", 9, "", false},
		{x(api.MaxKey + 1), x(1000), 9, "", false},
	} {
		wantGot(t, "some", a, c.row, c.col, c.time, c.want, c.is)
	}
	wantGot(t, "nothing", api.Tablet{}, "r", "c", 0, "", false)
}

func TestScan(t *testing.T) {
	a := some()
	wantScan(t, "some", a, api.Ask{Time: 4, Many: 99}, list{put("a", "c", 3, "four"), put("e", "", 0, "one")})
	wantScan(t, "some", a, api.Ask{Time: 5, Many: 99}, list{put("a", "c", 3, "four"), put("b", "c", 5, "six"), put("e", "", 0, "one")})
	wantScan(t, "some", a, api.Ask{Time: 9, Many: 99}, list{put("b", "c", 5, "six"), put("d", "", 6, "six"), put("e", "", 0, "one")})
	wantScan(t, "some, from c on", a, api.Ask{From: "c", Time: 9, Many: 99}, list{put("d", "", 6, "six"), put("e", "", 0, "one")})
	wantScan(t, "some, ahead of d", a, api.Ask{To: "d", Time: 9, Many: 99}, list{put("b", "c", 5, "six")})
	wantScan(t, "some, one", a, api.Ask{Time: 9, Many: 1}, list{put("b", "c", 5, "six")})
	wantScan(t, "some, none", a, api.Ask{Time: 9}, nil)
	wantScan(t, "some, the wrong way round", a, api.Ask{From: "e", To: "a", Time: 9, Many: 99}, nil)
	wantScan(t, "nothing", api.Tablet{}, api.Ask{Many: 99}, nil)
	most := api.Tablet{Log: logByHand(dealt(1, rising(0, 500))...), Files: filesOf(rising(500, 500))}
	wantScan(t, "the most", most, api.Ask{Time: 6, Many: api.MaxList}, rising(0, 1000))
	wantScan(t, "the most", most, api.Ask{Time: 6, Many: 3, From: "row100499"}, rising(499, 3))
}

// TestWhatCounts: of lists with one place and time, memory's counts, then that of the file that stands first.
func TestWhatCounts(t *testing.T) {
	lists := []list{{put("r", "c", 5, "0")}, {put("r", "c", 5, "1")}, {gone("r", "c", 5)}, {put("r", "c", 5, "3")}}
	for i, want := range []string{"0", "1", "", "3"} {
		wantGot(t, "files", api.Tablet{Files: filesOf(lists[i:]...)}, "r", "c", 5, want, want != "")
		a := api.Tablet{Files: filesOf(lists[i:]...), Log: logByHand(note(1, put("r", "c", 5, "m")))}
		wantGot(t, "memory and files", a, "r", "c", 5, "m", true)
		a.Log = logByHand(note(1, put("r", "c", 5, "m")), note(2, gone("r", "c", 5)))
		wantGot(t, "memory that is Gone, and files", a, "r", "c", 5, "", false)
		// What is done counts in the files alone.
		a.Done = 2
		wantGot(t, "a log that is done, and files", a, "r", "c", 5, want, want != "")
	}
	a := api.Tablet{Log: logByHand(note(1, put("r", "c", 5, "one")), note(2, put("r", "c", 4, "two")), note(3, put("r", "c", 5, "three")))}
	wantGot(t, "the later note", a, "r", "c", 5, "three", true)
	wantGot(t, "the later note of an earlier time", a, "r", "c", 4, "two", true)
}

// TestSeenByHand: Get and Scan of anything tell what is looked for by hand.
func TestSeenByHand(t *testing.T) {
	s := number(1)
	for range 60 {
		var lists []list
		for i := range s.below(6) {
			lists = append(lists, anyList(&s, s.below(30), 0, "file "+string(rune('a'+i))))
		}
		var notes []api.Note
		for i := range s.below(5) {
			notes = append(notes, note(i+1, anyList(&s, 1+s.below(20), 0, "note "+string(rune('a'+i)))...))
		}
		done := s.below(len(notes) + 1)
		since := s.below(4)
		a := api.Tablet{Log: logByHand(notes...), Files: filesOf(lists...), Done: done, Since: since}
		cells := joinedByHand(append([]list{appliedByHand(notes[done:]...)}, lists...)...)
		for time := since; time < 8; time++ {
			ask := api.Ask{From: []string{"", "aa", "ab"}[s.below(3)], To: []string{"", "b", "\xff"}[s.below(3)], Time: time, Many: s.below(25)}
			wantScan(t, "anything", a, ask, scannedByHand(cells, ask))
			all := scannedByHand(cells, api.Ask{Time: time, Many: api.MaxList})
			wantScan(t, "anything, all of it", a, api.Ask{Time: time, Many: api.MaxList}, all)
			for _, c := range cells {
				at := slices.IndexFunc(all, func(o api.Cell) bool { return samePlace(o, c) })
				if at < 0 {
					wantGot(t, "anything", a, c.Row, c.Col, time, "", false)
				} else {
					wantGot(t, "anything", a, c.Row, c.Col, time, all[at].Value, true)
				}
			}
		}
	}
}

func TestSeenAtClosedTimes(t *testing.T) {
	for _, since := range []int{1, 4, api.MaxNum} {
		a := api.Tablet{Log: logByHand(small(1, 3)...), Files: filesOf(list{put("q", "", 0, "zero")}), Since: since}
		wantGot(t, "at Since", a, "q", "", since, "zero", true)
		wantScan(t, "at Since", a, api.Ask{Time: since, Many: 1}, list{put("q", "", 0, "zero")})
		for _, time := range []int{since - 1, 0} {
			wantNotGot(t, "below Since", a, "q", "", time, fault(api.ErrStale, -1))
			wantNotGot(t, "below Since, nothing", a, "nothing", "", time, fault(api.ErrStale, -1))
			wantNotScanned(t, "below Since", a, api.Ask{Time: time, Many: 9}, fault(api.ErrStale, -1))
			wantNotScanned(t, "below Since, none", a, api.Ask{Time: time}, fault(api.ErrStale, -1))
			wantNotScanned(t, "Many, told ahead of a closed time", a, api.Ask{Time: time, Many: -1}, fault(api.ErrRange, -2))
		}
	}
}

func TestSeenFaults(t *testing.T) {
	for _, a := range []api.Tablet{{}, some(), {Since: api.MaxNum}} {
		for _, time := range []int{-1, api.MaxNum + 1, math.MinInt, math.MaxInt} {
			wantNotGot(t, "time", a, "a", "c", time, fault(api.ErrRange, -1))
			for _, many := range []int{0, 9, -1, api.MaxList + 1} {
				wantNotScanned(t, "Time", a, api.Ask{Time: time, Many: many}, fault(api.ErrRange, -1))
			}
		}
		for _, many := range []int{-1, api.MaxList + 1, math.MinInt, math.MaxInt} {
			for _, time := range []int{0, 9, api.MaxNum} {
				wantNotScanned(t, "Many", a, api.Ask{Time: time, Many: many}, fault(api.ErrRange, -2))
			}
		}
	}
}
