package parts_test

import (
	"slices"
	"testing"

	"tabulary/api"
	"tabulary/parts"
)

func wantFound(t *testing.T, l list, row string, want int) {
	t.Helper()
	n, f := parts.Find(l, row)
	wantFault(t, "Find", f, api.Fault{})
	if n != want {
		t.Errorf("Find of %q among %s: %d, want %d", row[:min(len(row), 50)], told(l), n, want)
	}
}

func TestFindInOnePart(t *testing.T) {
	for _, row := range someRows() {
		wantFound(t, list{{ID: 5}}, row, 0)
	}
}

func TestFind(t *testing.T) {
	l := four()
	for row, want := range map[string]int{
		"": 0, "\x00": 0, "a": 0, "b\xff\xff": 0,
		"c": 1, "c\x00": 1, "cc": 1, "d": 1, "l\xff": 1,
		"m": 2, "m\x00": 2, "s\xff": 2,
		"t": 3, "t\x00": 3, "z": 3, "é": 3, "\xff\xff": 3,
		"C": 0, "M": 0, x(api.MaxKey): 3, x(api.MaxKey + 1): 3, x(5000): 3, "b" + x(5000): 0,
	} {
		wantFound(t, l, row, want)
	}
}

// TestFindRightAhead: of the row with which a part begins, and right ahead of that.
func TestFindRightAhead(t *testing.T) {
	l := cutAt("\x00", "a\x00", "a\x00\x00", "b\x00")
	for row, want := range map[string]int{"": 0, "\x00": 1, "a": 1, "a\x00": 2, "a\x00\x00": 3, "a\x00\x01": 3, "b": 3, "b\x00": 4, "b\x00\x00": 4} {
		wantFound(t, l, row, want)
	}
	long := x(api.MaxKey-1) + "\x00"
	wantFound(t, cutAt(long), x(api.MaxKey-1), 0)
	wantFound(t, cutAt(long), long, 1)
	wantFound(t, cutAt(long), long+"\x00", 1)
}

func TestFindInTheMost(t *testing.T) {
	l := most()
	for i, row := range rising(api.MaxParts - 1) {
		wantFound(t, l, row, i+1)
		wantFound(t, l, row+"\x00", i+1)
		wantFound(t, l, row[:len(row)-1], i/10*10)
	}
	wantFound(t, l, "", 0)
	wantFound(t, l, "z", 199)
}

// TestFindTellsTheOnePart: just one part has a row, whatever it is.
func TestFindTellsTheOnePart(t *testing.T) {
	s := number(2)
	for range 300 {
		l := anyParts(&s, s.below(60))
		for _, row := range append(someRows(), anyRow(&s), anyRow(&s)) {
			has := havingByHand(l, row)
			if len(has) != 1 {
				t.Fatalf("%d of %s have %q", len(has), told(l), row)
			}
			wantFound(t, l, row, has[0])
		}
		for i, p := range l {
			wantFound(t, l, p.From, i)
		}
	}
}

func wantMet(t *testing.T, l list, from, to string, first, many int) {
	t.Helper()
	n, k, f := parts.Meet(l, from, to)
	wantFault(t, "Meet", f, api.Fault{})
	if n != first || k != many {
		t.Errorf("Meet of %q to %q with %s: %d, %d, want %d, %d", from, to, told(l), n, k, first, many)
	}
}

func TestMeet(t *testing.T) {
	for _, c := range []struct {
		from, to    string
		first, many int
	}{
		{"", "", 0, 4},
		{"", "\x00", 0, 1},
		{"", "a", 0, 1},
		{"", "c", 0, 1},
		{"", "c\x00", 0, 2},
		{"", "m", 0, 2},
		{"", "\xff", 0, 4},
		{"b", "c", 0, 1},
		{"b\xff", "c", 0, 1},
		{"b", "c\x00", 0, 2},
		{"b", "n", 0, 3},
		{"b", "t", 0, 3},
		{"b", "t\x00", 0, 4},
		{"b", "", 0, 4},
		{"c", "c\x00", 1, 1},
		{"c", "m", 1, 1},
		{"c", "m\x00", 1, 2},
		{"c", "", 1, 3},
		{"d", "e", 1, 1},
		{"l", "n", 1, 2},
		{"m", "t", 2, 1},
		{"m", "z", 2, 2},
		{"m", "", 2, 2},
		{"s", "", 2, 2},
		{"t", "t\x00", 3, 1},
		{"t", "", 3, 1},
		{"z", "zz", 3, 1},
		{"\xff\xff", "", 3, 1},
		{x(api.MaxKey + 1), "", 3, 1},
		{x(api.MaxKey + 1), x(api.MaxKey + 2), 3, 1},
		{"b" + x(5000), "c" + x(5000), 0, 2},
	} {
		wantMet(t, four(), c.from, c.to, c.first, c.many)
	}
	wantMet(t, most(), "", "", 0, 200)
	wantMet(t, most(), "row10000", "row10198", 1, 198)
	wantMet(t, list{{}}, "", "", 0, 1)
	wantMet(t, list{{}}, "a", "", 0, 1)
	wantMet(t, list{{}}, "a", "b", 0, 1)
}

// TestMeetOfNoRows: noughts, wherever to is not above from.
func TestMeetOfNoRows(t *testing.T) {
	for _, l := range []list{{{}}, four(), most()} {
		for _, c := range [][2]string{{"a", "a"}, {"c", "c"}, {"d", "d"}, {"d", "c"}, {"t", "a"}, {"z", "y"}, {"cc", "c"}, {"c\x00", "c"}, {"m", "l\xff"}, {"\x00", "\x00"}, {"\xff", "\x00"}, {x(41), x(40)}} {
			wantMet(t, l, c[0], c[1], 0, 0)
		}
	}
}

// metByHand: the numbers of the parts that have some of the rows. If two stretches have rows in common, then that with which one of them begins.
func metByHand(l list, from, to string) []int {
	rows := []string{from}
	for _, p := range l {
		rows = append(rows, p.From)
	}
	var out []int
	for _, row := range rows {
		if isOf(row, from, to) {
			out = append(out, havingByHand(l, row)...)
		}
	}
	slices.Sort(out)
	return slices.Compact(out)
}

func TestMeetOfWhatever(t *testing.T) {
	s := number(3)
	for range 3000 {
		l := anyParts(&s, s.below(20))
		from, to := anyRow(&s), anyRow(&s)
		if s.below(3) == 0 {
			from = l[s.below(len(l))].From
		}
		if s.below(3) == 0 {
			to = l[s.below(len(l))].To
		}
		met := metByHand(l, from, to)
		if len(met) == 0 {
			wantMet(t, l, from, to, 0, 0)
			continue
		}
		if met[len(met)-1] != met[0]+len(met)-1 {
			t.Fatalf("%v have some, and between them some have none", met)
		}
		wantMet(t, l, from, to, met[0], len(met))
	}
}
