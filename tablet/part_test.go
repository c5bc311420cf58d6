package tablet_test

import (
	"math"
	"slices"
	"testing"

	"tabulary/api"
	"tabulary/tablet"
)

// wantHalve: no fault, and just this row.
func wantHalve(t *testing.T, what string, a api.Tablet, want string) {
	t.Helper()
	row, f := tablet.Halve(a)
	wantFault(t, what, f, api.Fault{})
	if row != want {
		t.Errorf("%s: %q, want %q", what, row, want)
	}
}

// wantNotHalved: there are fewer than two rows.
func wantNotHalved(t *testing.T, what string, a api.Tablet) {
	t.Helper()
	row, f := tablet.Halve(a)
	wantFault(t, what, f, fault(api.ErrNone, 0))
	if row != "" {
		t.Errorf("%s: %q beside a fault", what, row)
	}
}

func TestHalve(t *testing.T) {
	wantNotHalved(t, "nothing", api.Tablet{})
	wantNotHalved(t, "a file of nothing", api.Tablet{Files: filesOf(nil), Done: 3})
	rows := []string{"a", "b", "c", "d", "e"}
	wantNotHalved(t, "one row", api.Tablet{Files: filesOf(list{put("a", "c", 1, "v")})})
	wantNotHalved(t, "one row of many cells", api.Tablet{
		Log:   logByHand(note(1, put("a", "", 7, "v"), put("a", "c", 1, "v"))),
		Files: filesOf(list{put("a", "c", 2, "v"), put("a", "d", 1, "v")}, list{gone("a", "d", 1)})})
	for n, want := range map[int]string{2: "b", 3: "b", 4: "c", 5: "c"} {
		var one, two list
		for i, row := range rows[:n] {
			one = append(one, put(row, "c", i, "v"))
			// As many rows, however many cells each of them has.
			two = append(two, put(row, "c", 9, "v"), gone(row, "c", 8))
		}
		wantHalve(t, "rows in a file", api.Tablet{Files: filesOf(one)}, want)
		wantHalve(t, "rows in two files", api.Tablet{Files: filesOf(one[:1], append(slices.Clone(two), put(rows[n-1], "d", 1, "")))}, want)
		wantHalve(t, "rows in memory", api.Tablet{Log: logByHand(note(1, one...), note(2, two...)), Since: 50}, want)
		wantHalve(t, "rows in memory and a file", api.Tablet{Log: logByHand(note(1, two[:2]...)), Files: filesOf(one[1:])}, want)
	}
	// Rows of which nothing is seen are rows; and what is done counts in the files alone.
	wantHalve(t, "rows that are Gone", api.Tablet{Files: filesOf(list{gone("a", "", 1), gone("b", "", 1), put("c", "", 1, "")})}, "b")
	wantNotHalved(t, "a log that is done", api.Tablet{Log: logByHand(note(1, put("z", "", 1, ""))), Done: 1, Files: filesOf(list{put("a", "", 1, "")})})
	wantHalve(t, "some", some(), "c")
	wantHalve(t, "the most rows", api.Tablet{Files: filesOf(rising(0, 500), rising(500, 500))}, "row100500")
}

// wantPart: no fault, and a tablet of just these cells.
func wantPart(t *testing.T, what string, a api.Tablet, from, to string, last int, cells list) {
	t.Helper()
	for _, size := range []int{50, 77, 4000} {
		then, f := tablet.Part(a, from, to, size)
		want := api.Tablet{Done: last, Since: a.Since}
		if len(cells) > 0 {
			want.Files = [][]byte{fileOf(size, cells...)}
		}
		wantTablet(t, what, then, f, want)
	}
}

func TestPart(t *testing.T) {
	all := cellsOfSome()
	for _, c := range []struct {
		what, from, to string
		first, behind  int
	}{
		{"all", "", "", 0, 10}, {"all, from the first row on", "a", "", 0, 10}, {"all, ahead of one that is not there", "", "z", 0, 10},
		{"from b on", "b", "", 2, 10}, {"from behind a on", "a\x00", "", 2, 10}, {"ahead of b", "", "b", 0, 2}, {"ahead of behind b", "", "b\x00", 0, 6},
		{"from b on, ahead of d", "b", "d", 2, 8}, {"one row", "c", "c\x00", 6, 8}, {"from the last row on", "e", "", 9, 10},
		{"no rows", "f", "", 0, 0}, {"no rows ahead", "", "a", 0, 0}, {"no rows between", "bb", "c", 0, 0}, {"nothing between", "b", "b", 0, 0},
		{"the wrong way round", "d", "b", 0, 0}, {"a long row", x(1000), "", 0, 0}, {"ahead of a long row", "", x(1000), 0, 10},
	} {
		wantPart(t, c.what, some(), c.from, c.to, 6, all[c.first:c.behind])
	}
	wantPart(t, "of nothing", api.Tablet{}, "", "", 0, nil)
	wantPart(t, "of a file of nothing", api.Tablet{Files: filesOf(nil), Done: 8, Since: 9}, "", "", 8, nil)
	wantPart(t, "without a log", api.Tablet{Files: filesOf(rising(0, 5), rising(3, 5)), Done: 8, Since: 9}, "row100002", "row100005", 8, rising(2, 3))
	wantPart(t, "of a log that is done", api.Tablet{Log: kept(small(2, 3)...), Done: 4}, "", "", 4, nil)
	wantPart(t, "of many notes", api.Tablet{Log: logByHand(small(1, 3002)...)}, "", "", 3002, appliedByHand(small(1, 5)...))
	wantPart(t, "at the last Seq of all", api.Tablet{Log: kept(small(api.MaxNum, 1)...), Done: api.MaxNum, Since: api.MaxNum}, "", "", api.MaxNum, nil)
}

func TestPartFaults(t *testing.T) {
	many := api.Tablet{Files: filesOf(rising(0, 500), rising(500, 1))}
	for _, a := range []api.Tablet{{}, some(), many} {
		for _, size := range wrongSizes() {
			for _, from := range []string{"", "a", "z"} {
				then, f := tablet.Part(a, from, "", size)
				wantNoTablet(t, "size", then, f, fault(api.ErrRange, -1))
			}
		}
	}
	then, f := tablet.Part(many, "", "", 50)
	wantNoTablet(t, "501 cells", then, f, fault(api.ErrMany, -1))
	wantPart(t, "500 of 501 cells", many, "row100001", "", 0, rising(1, 500))
	wantPart(t, "500 of 501 cells, ahead of the last", many, "", "row100500", 0, rising(0, 500))

	cells := long(500, 100)
	a := api.Tablet{Files: [][]byte{fileOf(4000, cells[:250]...), fileOf(4000, cells[250:]...)}}
	then, f = tablet.Part(a, "", "", 50)
	wantNoTablet(t, "a file that is too large", then, f, fault(api.ErrMuch, 0))
	then, f = tablet.Part(a, "", "", 4000)
	wantTablet(t, "in larger blocks", then, f, api.Tablet{Files: [][]byte{fileOf(4000, cells...)}})
	then, f = tablet.Part(a, "", "", math.MaxInt)
	wantNoTablet(t, "size, told ahead of what is too large", then, f, fault(api.ErrRange, -1))
}

// TestPartsTogether: those from a row on, and ahead of it, have all that is seen, and their files all cells.
func TestPartsTogether(t *testing.T) {
	s := number(2)
	for range 40 {
		a := anyTablet(&s)
		for _, row := range []string{"\x00", "a", "aa", "ab", "b", "c", "\xff", "é", "\xff\xff"} {
			head, f := tablet.Part(a, "", row, 50+s.below(3000))
			wantFault(t, "Part ahead", f, api.Fault{})
			tail, f := tablet.Part(a, row, "", 50+s.below(3000))
			wantFault(t, "Part from", f, api.Fault{})
			for time := a.Since; time < a.Since+8; time++ {
				ask := api.Ask{Time: time, Many: api.MaxList}
				all, f := tablet.Scan(a, ask)
				wantFault(t, "Scan", f, api.Fault{})
				ahead, f := tablet.Scan(head, ask)
				wantFault(t, "Scan ahead", f, api.Fault{})
				from, f := tablet.Scan(tail, ask)
				wantCells(t, "both parts", append(ahead, from...), f, all)
			}
		}
	}
}

// anyTablet: with anything in its log and its files.
func anyTablet(s *number) api.Tablet {
	a := api.Tablet{Since: s.below(4), Done: s.below(200)}
	for i := range s.below(5) {
		a.Files = append(a.Files, fileOf(50+s.below(100), anyList(s, s.below(30), 0, "file "+string(rune('a'+i)))...))
	}
	var notes []api.Note
	first := 1 + a.Done
	for i := range s.below(5) {
		notes = append(notes, note(first+i, anyList(s, 1+s.below(20), 0, "note "+string(rune('a'+i)))...))
	}
	a.Log = logByHand(notes...)
	a.Log.Kept = s.below(len(a.Log.Bytes) + 1)
	a.Done += s.below(len(notes) + 1)
	return a
}
