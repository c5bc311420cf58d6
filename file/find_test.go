package file_test

import (
	"math"
	"slices"
	"strconv"
	"testing"

	"tabulary/api"
	"tabulary/cell"
	"tabulary/file"
)

// mayBe: are all bits of the row 1 in the filter of cells, as the chapter tells it?
func mayBe(l []api.Cell, row string) bool {
	filter := filterBytes(max(len(rowsOf(l)), 1), l...)
	for _, bit := range bitsOf(row, uint64(8*len(filter))) {
		if filter[bit/8]&(1<<(bit%8)) == 0 {
			return false
		}
	}
	return true
}

// toRead: how many blocks have to be read for a row that may be there, as the chapter tells it.
func toRead(blocks [][]api.Cell, row string) int {
	from, upTo := 0, -1
	for i, l := range blocks {
		if l[0].Row < row {
			from = i
		}
		if l[0].Row <= row {
			upTo = i
		}
	}
	return len(blocks[from : upTo+1])
}

// wantFind: what Find tells of a file of these blocks.
func wantFind(t *testing.T, blocks [][]api.Cell, row, col string, time int, value string, is bool, n int) {
	t.Helper()
	gotValue, gotIs, gotN, f := file.Find(fileOf(t, blocks...), row, col, time)
	if gotValue != value || gotIs != is || gotN != n || f != (api.Fault{}) {
		t.Errorf("Find of %q, %q at %d: %q, %v, %d blocks, fault %v; want %q, %v, %d",
			cutText(row), col, time, gotValue, gotIs, gotN, f, value, is, n)
	}
}

func cutText(s string) string { return s[:min(len(s), 50)] }

// asked: rows that are there, and such as are not, ahead, between, behind.
func asked(l []api.Cell) []string {
	out := []string{"", "\x00", "a", "z", "\xff\xff", x(api.MaxKey), x(api.MaxKey + 1), x(api.MaxBytes + 1)}
	for _, row := range rowsOf(l) {
		out = append(out, row, row+"\x00", row+"x", row[:len(row)-1])
	}
	for i := range 60 {
		out = append(out, strconv.Itoa(i), "row"+strconv.Itoa(i))
	}
	return out
}

// someFiles: the cells of files, in blocks.
func someFiles(t *testing.T) [][][]api.Cell {
	t.Helper()
	s := number(5)
	out := [][][]api.Cell{nil, {someCells()}, chopped(someCells(), 1), chopped(someCells(), 2), chopped(edges(), 1), chopped(rising(40), 7)}
	for n := range 20 {
		out = append(out, anyBlocks(&s, anyCells(t, &s, 3*n)))
	}
	return out
}

func TestMay(t *testing.T) {
	not, falsely := 0, 0
	for _, blocks := range someFiles(t) {
		l := slices.Concat(blocks...)
		b := fileOf(t, blocks...)
		for _, row := range asked(l) {
			may, f := file.May(b, row)
			wantFault(t, "May", f, api.Fault{})
			if may != mayBe(l, row) {
				t.Errorf("May of %q among %q: %v", cutText(row), rowsOf(l), may)
			}
			if !may {
				not++
			} else if !slices.Contains(rowsOf(l), row) {
				falsely++
			}
		}
	}
	if not == 0 || falsely == 0 {
		t.Errorf("%d rows may not be there, %d may be but are not: both must be tried", not, falsely)
	}
}

// TestMayByItsBits: of one row, in eight bits.
func TestMayByItsBits(t *testing.T) {
	// The sum of a is 0xE8B7BE43: 0xBE43, 0xBE43 + 0xE8B7 and 0xBE43 + 2 * 0xE8B7, of eight: 3, 2, 1.
	b := framesOf([]byte{1, 'a', 0, 1, 0, 0}, []byte{1, 'a', 6}, []byte{1<<3 | 1<<2 | 1<<1})
	for _, c := range []struct {
		row string
		may bool
	}{
		{"a", true},
		{"", false}, // 0, 0, 0
		{"b", false},
	} {
		may, f := file.May(b, c.row)
		wantFault(t, "May", f, api.Fault{})
		if may != c.may {
			t.Errorf("May of %q: %v", c.row, may)
		}
	}
}

// TestARowThatIsThereMayBeThere: each one of a file, also if all of its cells are Gone.
func TestARowThatIsThereMayBeThere(t *testing.T) {
	s := number(6)
	lists := [][]api.Cell{someCells(), edges(), rising(500), {gone("r", "c", 1)}}
	for n := range 100 {
		lists = append(lists, anyCells(t, &s, n))
	}
	for _, l := range lists {
		b, f := file.Make(l, 50+s.below(3951))
		wantFault(t, "Make", f, api.Fault{})
		for _, row := range rowsOf(l) {
			if may, f := file.May(b, row); !may || f != (api.Fault{}) {
				t.Errorf("May of %q, which is there: %v, fault %v", row, may, f)
			}
		}
	}
}

func TestNothingMayBeInAFileOfNothing(t *testing.T) {
	b, f := file.Make(nil, 50)
	wantFault(t, "Make", f, api.Fault{})
	for _, row := range asked(nil) {
		if may, f := file.May(b, row); may || f != (api.Fault{}) {
			t.Errorf("May of %q in nothing: %v, fault %v", cutText(row), may, f)
		}
		wantFind(t, nil, row, "", 0, "", false, 0)
	}
}

func TestFind(t *testing.T) {
	// The rows b, b, b, bb, é in the index.
	l := someCells()
	blocks := [][]api.Cell{l[:2], l[2:4], l[4:6], l[6:8], l[8:]}
	for _, c := range []struct {
		row, col string
		time     int
		value    string
		is       bool
		n        int
	}{
		{"b", "", 3, "empty", true, 3},
		{"b", "", 2, "", false, 3},
		{"b", "c", api.MaxNum, "last", true, 3},
		{"b", "c", api.MaxNum - 1, "seven", true, 3},
		{"b", "c", 7, "seven", true, 3},
		{"b", "c", 6, "", false, 3},
		{"b", "c", 4, "first", true, 3},
		{"b", "c", 0, "first", true, 3},
		{"b", "d", 2, "", true, 3},
		{"b", "d", 1, "", false, 3},
		{"b", "x", 9, "", false, 3},
		{"bb", "c", 1, "bb", true, 2},
		{"d", "c", 9, "", false, 1},
		{"é", "c", 4, "\x00\xff", true, 2},
		{"é", "", 4, "", false, 2},
	} {
		wantFind(t, blocks, c.row, c.col, c.time, c.value, c.is, c.n)
	}
}

// TestBlocksToRead: rows on the blocks' edges, in blocks of one, of two, and in one.
func TestBlocksToRead(t *testing.T) {
	a, b1, b2, b3, c := put("a", "", 1, "a"), put("b", "", 1, "b1"), put("b", "x", 1, "b2"), put("b", "y", 1, "b3"), put("c", "", 1, "c")
	type list = []api.Cell
	for _, k := range []struct {
		blocks  []list
		a, b, c int
	}{
		{[]list{{a, b1, b2, b3, c}}, 1, 1, 1},
		{[]list{{a, b1}, {b2, b3}, {c}}, 1, 2, 2},
		{[]list{{a}, {b1, b2, b3}, {c}}, 1, 2, 2},
		{[]list{{a}, {b1}, {b2}, {b3}, {c}}, 1, 4, 2},
		{[]list{{a, b1}, {b2}, {b3, c}}, 1, 3, 1},
		{[]list{{a, b1, b2, b3}, {c}}, 1, 1, 2},
		{[]list{{a, b1, b2}, {b3, c}}, 1, 2, 1},
		{[]list{{b1}, {b2}, {b3}, {c}}, 0, 3, 2},
		{[]list{{b1, b2}, {b3, c}}, 0, 2, 1},
		{[]list{{a}, {b1, b2}, {b3}}, 1, 3, 0},
	} {
		has := slices.Concat(k.blocks...)
		if slices.Contains(has, a) {
			wantFind(t, k.blocks, "a", "", 1, "a", true, k.a)
		}
		wantFind(t, k.blocks, "b", "y", 1, "b3", true, k.b)
		if slices.Contains(has, c) {
			wantFind(t, k.blocks, "c", "", 1, "c", true, k.c)
		}
	}
}

// TestBlocksToReadForARowThatIsNotThere: none, if it may not be; else those where it would stand, which are none for one ahead of all.
func TestBlocksToReadForARowThatIsNotThere(t *testing.T) {
	l := []api.Cell{put("m", "", 1, ""), put("m", "x", 1, ""), put("p", "", 1, ""), put("q", "", 1, "")}
	blocks := chopped(l, 1)
	tried := map[int]int{}
	for i := range 2000 {
		for _, c := range []struct {
			row string
			n   int
		}{
			{"a" + strconv.Itoa(i), 0},
			{"m" + strconv.Itoa(i), 1},
			{"o" + strconv.Itoa(i), 1},
			{"p" + strconv.Itoa(i), 1},
			{"z" + strconv.Itoa(i), 1},
		} {
			if !mayBe(l, c.row) {
				wantFind(t, blocks, c.row, "", 1, "", false, 0)
				continue
			}
			tried[c.n]++
			wantFind(t, blocks, c.row, "", 1, "", false, c.n)
		}
	}
	if tried[0] == 0 || tried[1] == 0 {
		t.Errorf("of rows that may be there, but are not, %v were tried", tried)
	}
}

// TestFindTellsWhatGetTells: of each row and column, at each time.
func TestFindTellsWhatGetTells(t *testing.T) {
	for _, blocks := range someFiles(t) {
		l := slices.Concat(blocks...)
		b := fileOf(t, blocks...)
		for i, row := range asked(l) {
			for _, time := range []int{0, i % 10, api.MaxNum} {
				col := []string{"", "c", "aa", x(api.MaxKey), x(api.MaxKey + 1)}[(i+time)%5]
				value, is, f := cell.Get(l, row, col, time)
				wantFault(t, "layer 3's Get", f, api.Fault{})
				n := 0
				if mayBe(l, row) {
					n = toRead(blocks, row)
				}
				gotValue, gotIs, gotN, f := file.Find(b, row, col, time)
				if gotValue != value || gotIs != is || gotN != n || f != (api.Fault{}) {
					t.Errorf("Find of %q, %q at %d in %v: %q, %v, %d blocks, fault %v; want %q, %v, %d",
						cutText(row), col, time, cut(l), gotValue, gotIs, gotN, f, value, is, n)
				}
			}
		}
	}
}

func TestFindFaults(t *testing.T) {
	for _, blocks := range [][][]api.Cell{nil, chopped(someCells(), 3)} {
		b := fileOf(t, blocks...)
		for _, time := range []int{-1, api.MaxNum + 1, math.MinInt, math.MaxInt} {
			for _, row := range []string{"b", "bb", "", "not there", "é"} {
				value, is, n, f := file.Find(b, row, "c", time)
				wantFault(t, "a time that may not be", f, fault(api.ErrRange, -1))
				if value != "" || is || n != 0 {
					t.Errorf("%q, %v, %d beside a fault", value, is, n)
				}
			}
		}
	}
}
