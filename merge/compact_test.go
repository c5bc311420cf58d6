package merge_test

import (
	"slices"
	"testing"

	"tabulary/api"
	"tabulary/merge"
)

func TestExample(t *testing.T) {
	b, a := put("r", "c", 2, "b"), put("r", "c", 1, "a")
	for _, l := range [][]list{{{b, a}}, {{b}, {a}}, {{a}, {b}}} {
		for _, whole := range []bool{false, true} {
			got, f := merge.Compact(l, 2, whole)
			wantCells(t, "Compact since 2", got, f, list{b})
		}
	}
}

// TestCompact: part is what is left with whole false, all with whole true.
func TestCompact(t *testing.T) {
	c4, c3, c2, c1 := put("r", "c", 4, "4"), put("r", "c", 3, "3"), put("r", "c", 2, "2"), put("r", "c", 1, "1")
	g4, g3, g2, g1 := gone("r", "c", 4), gone("r", "c", 3), gone("r", "c", 2), gone("r", "c", 1)
	d2, s2 := put("r", "d", 2, "d"), gone("s", "c", 2)
	first, last := put("r", "c", 0, "first"), put("r", "c", api.MaxNum, "last")
	for _, k := range []struct {
		what      string
		l         []list
		since     int
		part, all list
	}{
		{"nothing", nil, 2, nil, nil},
		{"lists without cells", []list{nil, {}}, api.MaxNum, nil, nil},
		{"all above since", []list{{c4, c3}}, 2, list{c4, c3}, list{c4, c3}},
		{"all above since, and Gone", []list{{g4}, {g3}}, 2, list{g4, g3}, list{g4, g3}},
		{"one just since, alone", []list{{c2}}, 2, list{c2}, list{c2}},
		{"one just since, and one behind it", []list{{c2, c1}}, 2, list{c2}, list{c2}},
		{"one just since, and those above it", []list{{c4, c3, c2, c1}}, 2, list{c4, c3, c2}, list{c4, c3, c2}},
		{"one just above since, and one behind it", []list{{c3, c1}}, 2, list{c3, c1}, list{c3, c1}},
		{"one just above since, and two behind it", []list{{c3, c2, c1}}, 2, list{c3, c2}, list{c3, c2}},
		{"several that are not above since", []list{{c3, c1}, {c4, c2}}, 5, list{c4}, list{c4}},
		{"Gone just since", []list{{g2}}, 2, list{g2}, nil},
		{"Gone just above since", []list{{g3}}, 2, list{g3}, list{g3}},
		{"Gone below since", []list{{g1}}, 2, list{g1}, nil},
		{"Gone, which hides one behind it", []list{{g2}, {c1}}, 2, list{g2}, nil},
		{"Gone, which hides several behind it", []list{{g3}, {c2, c1}}, 3, list{g3}, nil},
		{"Gone above since, and one behind it", []list{{g3}, {c2, c1}}, 2, list{g3, c2}, list{g3, c2}},
		{"Gone behind one that is not above since", []list{{c2}, {g1}}, 2, list{c2}, list{c2}},
		{"Gone behind one that is above since", []list{{c3}, {g1}}, 2, list{c3, g1}, list{c3}},
		{"Gone twice", []list{{g2}, {g1}}, 2, list{g2}, nil},
		{"Gone, put, and Gone", []list{{g4}, {c3}, {g2, c1}}, 3, list{g4, c3}, list{g4, c3}},
		{"Gone in the newer of two lists at one time", []list{{g2}, {c2, c1}}, 2, list{g2}, nil},
		{"Gone in the older of two lists at one time", []list{{c2}, {g2, c1}}, 2, list{c2}, list{c2}},
		{"each row and column by itself", []list{{g3, d2, s2}, {c1}}, 3, list{g3, d2, s2}, list{d2}},
		{"each row and column by itself, since 2", []list{{c2, d2, s2}, {c1, put("r", "d", 1, "")}, {put("s", "c", 1, "")}}, 2, list{c2, d2, s2}, list{c2, d2}},
		{"since 0", []list{{last, c1, first}}, 0, list{last, c1, first}, list{last, c1, first}},
		{"since 0, Gone then", []list{{c1, gone("r", "c", 0)}}, 0, list{c1, gone("r", "c", 0)}, list{c1}},
		{"since MaxNum", []list{{last, c1, first}}, api.MaxNum, list{last}, list{last}},
		{"since MaxNum, Gone then", []list{{gone("r", "c", api.MaxNum)}, {c1, first}}, api.MaxNum, list{gone("r", "c", api.MaxNum)}, nil},
		{"since a time ahead of MaxNum", []list{{last, c1, first}}, api.MaxNum - 1, list{last, c1}, list{last, c1}},
	} {
		got, f := merge.Compact(k.l, k.since, false)
		wantCells(t, k.what, got, f, k.part)
		got, f = merge.Compact(k.l, k.since, true)
		wantCells(t, k.what+", whole", got, f, k.all)
	}
}

func TestCompactAtItsLimits(t *testing.T) {
	most := rising(0, api.MaxList)
	for _, l := range [][]list{{most}, dealt(most, 20), slices.Repeat([]list{most}, 20)} {
		for _, whole := range []bool{false, true} {
			for _, since := range []int{0, 3, api.MaxNum} {
				got, f := merge.Compact(l, since, whole)
				wantCells(t, "the most cells", got, f, most)
			}
		}
	}
	times := make(list, api.MaxList)
	for i := range times {
		times[i] = put("r", "c", api.MaxList-1-i, "v")
	}
	for _, since := range []int{0, 1, 500, 999, api.MaxNum} {
		got, f := merge.Compact(dealt(times, 20), since, true)
		wantCells(t, "one place", got, f, times[:max(1, api.MaxList-since)])
	}
}

// someTimes: those of anyLists, and some about them.
func someTimes() []int { return []int{0, 1, 2, 3, 4, 5, 6, api.MaxNum - 1, api.MaxNum} }

// TestCompactOfAnyLists: what is promised.
func TestCompactOfAnyLists(t *testing.T) {
	s := number(4)
	for n := range 60 {
		l := anyLists(&s, n%21)
		for _, since := range someTimes() {
			for _, whole := range []bool{false, true} {
				got, f := merge.Compact(l, since, whole)
				wantCells(t, "Compact", got, f, compactByHand(l, since, whole))
			}
		}
	}
}

// wantSameSeen: at each time from since on both lists show the same.
func wantSameSeen(t *testing.T, what string, got, want []list, since int) {
	t.Helper()
	for _, time := range someTimes() {
		if time < since {
			continue
		}
		a := api.Ask{Time: time, Many: api.MaxList}
		is, f := merge.Scan(got, a)
		was, g := merge.Scan(want, a)
		wantFault(t, what, g, api.Fault{})
		wantCells(t, what, is, f, was)
	}
}

// TestWhatIsCompactIsSeenAsWhatWas: at times from since on; with whole false also with older lists behind it.
func TestWhatIsCompactIsSeenAsWhatWas(t *testing.T) {
	s := number(5)
	fewer := 0
	for n := range 60 {
		l := anyLists(&s, n%20)
		older := anyLists(&s, 1+s.below(20-len(l)))
		for _, since := range someTimes() {
			part, f := merge.Compact(l, since, false)
			wantFault(t, "Compact", f, api.Fault{})
			whole, f := merge.Compact(l, since, true)
			wantFault(t, "Compact whole", f, api.Fault{})
			wantSameSeen(t, "Compact", []list{part}, l, since)
			wantSameSeen(t, "Compact whole", []list{whole}, l, since)
			if len(older) < 20 {
				wantSameSeen(t, "Compact ahead of older lists", append([]list{part}, older...), slices.Concat(l, older), since)
			}
			if len(whole) < len(part) {
				fewer++
			}
		}
	}
	if fewer == 0 {
		t.Error("no cell that is Gone was tried")
	}
}

// TestWholeIsNotForOlderListsBehind: what was Gone would be seen again; so whole is not the same as not whole.
func TestWholeIsNotForOlderListsBehind(t *testing.T) {
	old := list{put("r", "c", 1, "old")}
	part, _ := merge.Compact([]list{{gone("r", "c", 2)}}, 2, false)
	whole, _ := merge.Compact([]list{{gone("r", "c", 2)}}, 2, true)
	got, f := merge.Scan([]list{part, old}, api.Ask{Time: 2, Many: 9})
	wantCells(t, "with what is Gone", got, f, nil)
	got, f = merge.Scan([]list{whole, old}, api.Ask{Time: 2, Many: 9})
	wantCells(t, "without it", got, f, old)
}
