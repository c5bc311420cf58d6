package merge_test

import (
	"slices"
	"testing"

	"tabulary/api"
	"tabulary/cell"
	"tabulary/merge"
)

// someLists: a is put, Gone and put again, in three lists; b at 4 is put again; d is Gone in the newest list, at no newer time than it was put.
func someLists() []list {
	return []list{
		{put("a", "c", 9, "new"), put("b", "", 4, "again"), gone("d", "c", 0)},
		{},
		{gone("a", "c", 5), put("a", "d", 4, "other"), put("b", "", 4, "first")},
		{put("a", "c", 3, "old"), put("b", "", 0, ""), put("c", "c", api.MaxNum, "late"), put("c", "c", 0, "soon"), put("d", "c", 0, "was")},
	}
}

func TestScan(t *testing.T) {
	l := someLists()
	a9, b4, a4, a3, b0, late, soon := l[0][0], l[0][1], l[2][1], l[3][0], l[3][1], l[3][2], l[3][3]
	for _, k := range []struct {
		what string
		a    api.Ask
		want list
	}{
		{"all at the last time", api.Ask{Time: api.MaxNum, Many: api.MaxList}, list{a9, a4, b4, late}},
		{"all a time ahead", api.Ask{Time: api.MaxNum - 1, Many: api.MaxList}, list{a9, a4, b4, soon}},
		{"all while a is Gone", api.Ask{Time: 8, Many: api.MaxList}, list{a4, b4, soon}},
		{"all since a is Gone", api.Ask{Time: 5, Many: api.MaxList}, list{a4, b4, soon}},
		{"all ahead of that", api.Ask{Time: 4, Many: api.MaxList}, list{a3, a4, b4, soon}},
		{"all ahead of b at 4", api.Ask{Time: 3, Many: api.MaxList}, list{a3, b0, soon}},
		{"all at the first time", api.Ask{Time: 0, Many: api.MaxList}, list{b0, soon}},
		{"none", api.Ask{Time: 4, Many: 0}, nil},
		{"the first one", api.Ask{Time: 4, Many: 1}, list{a3}},
		{"the first two that are seen", api.Ask{Time: 5, Many: 2}, list{a4, b4}},
		{"just as many as there are", api.Ask{Time: 4, Many: 4}, list{a3, a4, b4, soon}},
		{"one less", api.Ask{Time: 4, Many: 3}, list{a3, a4, b4}},
		{"from a row that is there", api.Ask{From: "b", Time: 4, Many: 9}, list{b4, soon}},
		{"from a row that is not there", api.Ask{From: "a\x00", Time: 4, Many: 1}, list{b4}},
		{"from behind all", api.Ask{From: "d\x00", Time: 4, Many: 9}, nil},
		{"ahead of a row that is there", api.Ask{To: "b", Time: 4, Many: 9}, list{a3, a4}},
		{"ahead of a row that is not there", api.Ask{To: "b\x00", Time: 4, Many: 9}, list{a3, a4, b4}},
		{"ahead of the first row", api.Ask{To: "a", Time: 4, Many: 9}, nil},
		{"from a row, ahead of another one", api.Ask{From: "b", To: "c", Time: 4, Many: 9}, list{b4}},
		{"from a row, ahead of that one", api.Ask{From: "b", To: "b", Time: 4, Many: 9}, nil},
		{"from a row, ahead of one ahead of it", api.Ask{From: "c", To: "a", Time: 4, Many: 9}, nil},
		{"From and To longer than a row may be", api.Ask{From: "b" + x(99), To: "c" + x(99), Time: 4, Many: 9}, list{soon}},
	} {
		got, f := merge.Scan(l, k.a)
		wantCells(t, k.what, got, f, k.want)
	}
}

func TestScanOfNothing(t *testing.T) {
	for _, l := range [][]list{nil, {}, {nil}, {{}, nil}, make([]list, 20)} {
		for _, n := range []int{0, 1, api.MaxList} {
			got, f := merge.Scan(l, api.Ask{Time: n, Many: n})
			wantCells(t, "nothing", got, f, nil)
		}
	}
}

// TestScanOfMoreThanMaxList: of cells that cannot be joined, because they are too many.
func TestScanOfMoreThanMaxList(t *testing.T) {
	all := rising(0, 20*api.MaxList)
	var seen list
	for _, c := range all {
		if c.Time <= 3 {
			seen = append(seen, c)
		}
	}
	at := func(row string) int {
		return slices.IndexFunc(seen, func(c api.Cell) bool { return c.Row >= row })
	}
	for _, l := range [][]list{dealt(all, 20), slices.Collect(slices.Chunk(all, api.MaxList))} {
		for _, k := range []struct {
			what string
			a    api.Ask
			want list
		}{
			{"the most", api.Ask{Time: api.MaxNum, Many: api.MaxList}, all[:api.MaxList]},
			{"none", api.Ask{Time: api.MaxNum, Many: 0}, nil},
			{"the last ones", api.Ask{From: all[19500].Row, Time: 6, Many: api.MaxList}, all[19500:]},
			{"from within", api.Ask{From: all[1500].Row, Time: 6, Many: 700}, all[1500:2200]},
			{"from within, to within", api.Ask{From: all[10500].Row, To: all[10600].Row, Time: 6, Many: 700}, all[10500:10600]},
			{"the most that are seen", api.Ask{Time: 3, Many: api.MaxList}, seen[:api.MaxList]},
			{"the last ones that are seen", api.Ask{From: all[19000].Row, Time: 3, Many: api.MaxList}, seen[at(all[19000].Row):]},
		} {
			got, f := merge.Scan(l, k.a)
			wantCells(t, k.what, got, f, k.want)
		}
	}
}

// TestScanOfManyInOnePlace: of a row and a column with more than MaxList times one is seen.
func TestScanOfManyInOnePlace(t *testing.T) {
	times := make(list, 3000)
	for i := range times {
		times[i] = put("r", "c", 3000-i, "v")
	}
	l := dealt(times, 3)
	for _, time := range []int{1, 2, 999, 1000, 1001, 2500, 3000, api.MaxNum} {
		got, f := merge.Scan(l, api.Ask{Time: time, Many: api.MaxList})
		wantCells(t, "one place", got, f, list{put("r", "c", min(time, 3000), "v")})
	}
	got, f := merge.Scan(l, api.Ask{Time: 0, Many: api.MaxList})
	wantCells(t, "one place, at first", got, f, nil)
}

// TestScanOfAnyLists: what is promised, and what chapter 3's tells of what is joined.
func TestScanOfAnyLists(t *testing.T) {
	s := number(3)
	ends := []string{"", "\x00", "a", "aa", "ab", "b", "é", "\xff"}
	times := []int{0, 1, 2, 3, 4, 5, 6, api.MaxNum - 1, api.MaxNum}
	for n := range 80 {
		l := anyLists(&s, n%21)
		for _, time := range times {
			a := api.Ask{From: ends[s.below(len(ends))], To: ends[s.below(len(ends))], Time: time, Many: s.below(30)}
			got, f := merge.Scan(l, a)
			wantCells(t, "Scan", got, f, scannedByHand(l, a))
			again, f := cell.Scan(joined(t, l...), a)
			wantCells(t, "chapter 3's Scan of Join", again, f, got)
		}
	}
}
