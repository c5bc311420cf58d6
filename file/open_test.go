package file_test

import (
	"slices"
	"testing"

	"tabulary/api"
	"tabulary/file"
)

// wantAllSay: Open, May and Find tell just this fault, and nothing else.
func wantAllSay(t *testing.T, what string, b []byte, want api.Fault) {
	t.Helper()
	l, f := file.Open(b)
	wantFault(t, what+": Open", f, want)
	may, f := file.May(b, "b")
	wantFault(t, what+": May", f, want)
	for _, time := range []int{-1, 0, api.MaxNum + 1} {
		value, is, n, f := file.Find(b, "b", "c", time)
		wantFault(t, what+": Find", f, want)
		if len(l) != 0 || may || value != "" || is || n != 0 {
			t.Errorf("%s: %v, %v, %q, %v, %d beside a fault", what, cut(l), may, value, is, n)
		}
	}
}

// TestOpenOfMakeAreTheCells: of any cells in order, and any size.
func TestOpenOfMakeAreTheCells(t *testing.T) {
	s := number(3)
	lists := [][]api.Cell{nil, {}, someCells(), edges(), rising(500)}
	for n := range 100 {
		lists = append(lists, anyCells(t, &s, n))
	}
	for _, l := range lists {
		for _, size := range []int{50, 51 + s.below(3949), 4000} {
			b, f := file.Make(l, size)
			wantFault(t, "Make", f, api.Fault{})
			got, f := file.Open(b)
			wantCells(t, "Open of Make", got, f, l)
		}
	}
}

// TestOpenOfWhicheverBlocks: also such as Make does not make.
func TestOpenOfWhicheverBlocks(t *testing.T) {
	some, most := someCells(), rising(500)
	for _, c := range []struct {
		what   string
		blocks [][]api.Cell
	}{
		{"no blocks", nil},
		{"one cell", [][]api.Cell{some[:1]}},
		{"one block", [][]api.Cell{some}},
		{"blocks of one cell", chopped(some, 1)},
		{"blocks of two", chopped(some, 2)},
		{"the last one the longest", [][]api.Cell{some[:1], some[1:3], some[3:]}},
		{"the first one the longest", [][]api.Cell{some[:6], some[6:8], some[8:]}},
		{"the most cells in one block", [][]api.Cell{most}},
		{"the most blocks", chopped(most, 1)},
		{"a block above each size", [][]api.Cell{most[:400], most[400:]}},
	} {
		l, f := file.Open(fileOf(t, c.blocks...))
		wantCells(t, c.what, l, f, slices.Concat(c.blocks...))
	}
	s := number(4)
	for n := range 200 {
		l := anyCells(t, &s, n)
		got, f := file.Open(fileOf(t, anyBlocks(&s, l)...))
		wantCells(t, "blocks of any lengths", got, f, l)
	}
}

func TestOpenOfTooManyBytes(t *testing.T) {
	b, f := file.Make(fullFile(t, api.MaxBytes), 4000)
	wantFault(t, "Make", f, api.Fault{})
	wantAllSay(t, "one byte too many", append(b, 0), fault(api.ErrSize, 0))
	much := fullFile(t, api.MaxBytes)
	much[len(much)-1].Value += "z"
	wantAllSay(t, "a file of one byte too many", fileOf(t, cutBySize(t, much, 4000)...), fault(api.ErrSize, 0))
	wantAllSay(t, "noughts", make([]byte, api.MaxBytes+1), fault(api.ErrSize, 0))
	wantAllSay(t, "far too many", make([]byte, 1<<22), fault(api.ErrSize, 0))
}

func TestOpenOfWhatAreNotItsFrames(t *testing.T) {
	good := fileOf(t, chopped(someCells(), 4)...)
	nothing := framesOf(nil, []byte{0})
	for _, c := range []struct {
		what string
		b    []byte
	}{
		{"nothing", nil},
		{"no bytes", []byte{}},
		{"a byte", []byte{0}},
		{"noughts", make([]byte, 13)},
		{"as many noughts as may be", make([]byte, api.MaxBytes)},
		{"one frame", framesOf([]byte{0})},
		{"one frame of no bytes", framesOf(nil)},
		{"a filter without bytes", framesOf(nil, nil)},
		{"a filter without bytes behind blocks", framesOf(replaced(made(t, someCells()), 2, nil)...)},
		{"a filter without bytes, and a wrong index", framesOf([]byte{9}, nil)},
		{"too many frames for layer 1, and a filter without bytes", slices.Repeat(framesOf(nil), api.MaxList+1)},
		{"a byte behind", append(slices.Clone(good), 0)},
		{"a byte behind nothing", append(slices.Clone(nothing), 0)},
		{"a byte ahead", append([]byte{0}, good...)},
		{"a frame behind that is cut off", slices.Concat(nothing, nothing[:5])},
		{"a wrong index, and a byte behind", append(framesOf([]byte{9}, []byte{0}), 0)},
	} {
		wantAllSay(t, c.what, c.b, fault(api.ErrForm, 0))
	}
	for n := range good {
		_, f := file.Open(good[:n])
		if f.Code != api.ErrForm {
			t.Errorf("cut off at %d: fault %v", n, f)
		}
	}
	for i := range nothing {
		changed := slices.Clone(nothing)
		changed[i] ^= 64
		wantAllSay(t, "a byte changed", changed, fault(api.ErrForm, 0))
	}
}

// TestOpenOfWhatIsCutOffBetweenFrames: what was a block or the index stands last then.
func TestOpenOfWhatIsCutOffBetweenFrames(t *testing.T) {
	bodies := made(t, chopped(someCells(), 3)...)
	for n := range bodies {
		want := fault(api.ErrForm, 1)
		if n < 2 {
			want = fault(api.ErrForm, 0)
		}
		wantAllSay(t, "cut off between frames", framesOf(bodies[:n]...), want)
	}
}

func TestOpenOfAWrongIndex(t *testing.T) {
	l := someCells()
	blocks := [][]api.Cell{l[:4], l[4:]}
	bodies := made(t, blocks...)
	a, b := mark{"b", len(bodies[0])}, mark{"b", len(bodies[1])}
	right := indexBytes(t, a, b)
	if !slices.Equal(right, bodies[2]) {
		t.Fatalf("the index is %v, want %v", bodies[2], right)
	}
	longer := func(m mark, n int) mark { return mark{m.row, m.size + n} }
	for _, c := range []struct {
		what  string
		index []byte
	}{
		{"nothing", nil},
		{"a byte", []byte{1}},
		{"cut off", right[:len(right)-1]},
		{"a byte behind", append(slices.Clone(right), 0)},
		{"a text alone behind", append(slices.Clone(right), 1, 'z')},
		{"one block of two", indexBytes(t, a)},
		{"three blocks of two", indexBytes(t, a, b, b)},
		{"a third block of no bytes", indexBytes(t, a, b, mark{"z", 0})},
		{"the blocks the wrong way", indexBytes(t, b, a)},
		{"the first one longer", indexBytes(t, longer(a, 1), b)},
		{"the first one shorter", indexBytes(t, longer(a, -1), b)},
		{"the last one longer", indexBytes(t, a, longer(b, 1))},
		{"the last one shorter", indexBytes(t, a, longer(b, -1))},
		{"as long together", indexBytes(t, longer(a, 1), longer(b, -1))},
		{"with the frames' bytes besides", indexBytes(t, longer(a, 6), longer(b, 6))},
		{"lengths ahead of rows", []byte{byte(a.size), 1, 'b', byte(b.size), 1, 'b'}},
		{"a length in two bytes", []byte{1, 'b', byte(a.size) | 128, 0, 1, 'b', byte(b.size)}},
		{"a row's length in two bytes", []byte{129, 0, 'b', byte(a.size), 1, 'b', byte(b.size)}},
		{"other lengths and other rows", indexBytes(t, mark{"z", 1}, mark{"a", 2})},
		{"the rows alone", []byte{1, 'b', 1, 'b'}},
		{"the lengths alone", []byte{byte(a.size), byte(b.size)}},
	} {
		wantAllSay(t, c.what, framesOf(replaced(bodies, 2, c.index)...), fault(api.ErrForm, 1))
		// Told ahead of what is wrong with the blocks and the filter.
		wrong := slices.Clone(bodies)
		wrong[0], wrong[2], wrong[3] = slices.Repeat([]byte{0}, len(bodies[0])), c.index, []byte{0}
		wantAllSay(t, c.what+", with wrong blocks", framesOf(wrong...), fault(api.ErrForm, 1))
	}
	wantAllSay(t, "an index of no blocks", framesOf(indexBytes(t, a), []byte{0}), fault(api.ErrForm, 1))
	wantAllSay(t, "no length of a block without bytes", framesOf(nil, []byte{1, 'b'}, []byte{0}), fault(api.ErrForm, 1))
	wantAllSay(t, "an index of a block without bytes, which is not there", framesOf([]byte{0, 0}, []byte{0}), fault(api.ErrForm, 1))
}

func TestOpenOfAnotherRowInTheIndex(t *testing.T) {
	l := someCells()
	bodies := made(t, l[:4], l[4:])
	for _, row := range []string{"", "a", "b\x00", "bb", "c", x(api.MaxKey + 1), x(5000)} {
		for at := range 2 {
			marks := replaced([]mark{{"b", len(bodies[0])}, {"b", len(bodies[1])}}, at, mark{row, len(bodies[at])})
			wrong := replaced(bodies, 2, indexBytes(t, marks...))
			wantAllSay(t, "the index tells "+row, framesOf(wrong...), fault(api.ErrForm, 2))
			wantAllSay(t, "the index tells "+row+", with a wrong filter", framesOf(replaced(wrong, 3, []byte{0})...), fault(api.ErrForm, 2))
		}
	}
}

func TestOpenOfWrongBlocks(t *testing.T) {
	l := someCells()
	last := put("é", "c", 3, "older")
	for _, c := range []struct {
		what   string
		blocks [][]api.Cell
	}{
		{"a block without cells", [][]api.Cell{{}}},
		{"a block without cells ahead", [][]api.Cell{{}, l}},
		{"a block without cells between", [][]api.Cell{l[:4], {}, l[4:]}},
		{"a block without cells behind", [][]api.Cell{l, {}}},
		{"blocks the wrong way", [][]api.Cell{l[4:], l[:4]}},
		{"a cell in two blocks", [][]api.Cell{l[:4], l[3:]}},
		{"one row, column and time in two blocks", [][]api.Cell{l, {put("é", "c", 4, "other")}}},
		{"a newer one behind", [][]api.Cell{l, {put("é", "c", 5, "")}}},
		{"not in order within a block", [][]api.Cell{l, {put("é", "c", 2, ""), last}}},
		{"twice within a block", [][]api.Cell{l, {last, last}}},
		{"one cell too many, in one block", [][]api.Cell{rising(501)}},
		{"one cell too many, in two blocks", [][]api.Cell{rising(501)[:500], rising(501)[500:]}},
		{"one cell too many, in blocks of one", chopped(rising(501), 1)},
		{"as many as a list may have", chopped(rising(api.MaxList), 10)},
		{"more than a list may have", chopped(rising(api.MaxList+1), 11)},
		{"more than a list may have, in one block", [][]api.Cell{rising(api.MaxList + 1)}},
		{"blocks of one, more than layer 1 opens frames", chopped(rising(api.MaxList+1), 1)},
	} {
		b := fileOf(t, c.blocks...)
		if len(b) > api.MaxBytes {
			t.Fatalf("%s: %d bytes", c.what, len(b))
		}
		wantAllSay(t, c.what, b, fault(api.ErrForm, 2))
		bodies := made(t, c.blocks...)
		wantAllSay(t, c.what+", with a wrong filter", framesOf(replaced(bodies, len(bodies)-1, []byte{0})...), fault(api.ErrForm, 2))
	}
	// Older cells of a row, a column go on in the next block.
	got, f := file.Open(fileOf(t, l, []api.Cell{last}))
	wantCells(t, "an older one behind", got, f, append(l, last))
}

// TestOpenOfBytesThatAreNoBlock: the index tells their length, and a row that they begin with.
func TestOpenOfBytesThatAreNoBlock(t *testing.T) {
	good := cellsBytes(t, someCells()...)
	for _, c := range []struct {
		what string
		b    []byte
	}{
		{"a byte", []byte{1}},
		{"a row alone", []byte{1, 'b'}},
		{"cut off", good[:len(good)-1]},
		{"a byte behind", append(slices.Clone(good), 0)},
		{"Gone is 2", []byte{1, 'b', 0, 1, 2, 0}},
		{"Gone, with a value", []byte{1, 'b', 0, 1, 1, 1, 'v'}},
		{"a row without bytes behind", append(slices.Clone(good), 0, 0, 1, 0, 0)},
		{"a time above MaxNum", []byte{1, 'b', 0, 129, 148, 235, 220, 3, 0, 0}},
		{"a value that is too long", append([]byte{1, 'b', 0, 1, 0, 201, 1}, x(201)...)},
		{"a number longer than it must be", []byte{1, 'b', 0, 129, 0, 0, 0}},
	} {
		index := indexBytes(t, mark{"b", len(c.b)})
		filter := filterBytes(1, put("b", "", 0, ""))
		wantAllSay(t, c.what, framesOf(c.b, index, filter), fault(api.ErrForm, 2))
		index = indexBytes(t, mark{"a", 6}, mark{"b", len(c.b)})
		wantAllSay(t, c.what+", the second", framesOf([]byte{1, 'a', 0, 1, 0, 0}, c.b, index, filter), fault(api.ErrForm, 2))
	}
	wantAllSay(t, "a row without bytes", framesOf([]byte{0, 0, 1, 0, 0}, []byte{0, 5}, []byte{1}), fault(api.ErrForm, 2))
}

func TestOpenOfAnotherFilter(t *testing.T) {
	for _, blocks := range [][][]api.Cell{nil, chopped(someCells(), 2), {rising(60)}} {
		bodies := made(t, blocks...)
		at := len(bodies) - 1
		right := bodies[at]
		for i := range right {
			for bit := range 8 {
				wrong := replaced(right, i, right[i]^1<<bit)
				wantAllSay(t, "a bit changed", framesOf(replaced(bodies, at, wrong)...), fault(api.ErrForm, 3))
			}
		}
		all := slices.Concat(blocks...)
		for _, wrong := range [][]byte{
			append(slices.Clone(right), 0),
			append([]byte{0}, right...),
			filterBytes(len(right)+1, all...),
			filterBytes(len(all)+2, all...),
			slices.Repeat([]byte{255}, len(right)),
			slices.Repeat([]byte{255}, 5000),
		} {
			wantAllSay(t, "another filter", framesOf(replaced(bodies, at, wrong)...), fault(api.ErrForm, 3))
		}
	}
	// Of two rows, in one byte, and in none of the one ahead.
	bodies := made(t, rising(2))
	wantAllSay(t, "one byte short", framesOf(replaced(bodies, 2, filterBytes(1, rising(2)...))...), fault(api.ErrForm, 3))
	wantAllSay(t, "of one row", framesOf(replaced(bodies, 2, filterBytes(2, rising(1)...))...), fault(api.ErrForm, 3))
	wantAllSay(t, "of a row more", framesOf(replaced(bodies, 2, filterBytes(2, rising(3)...))...), fault(api.ErrForm, 3))
}

// TestAChangedByteIsTold: whichever byte of a file is another one, some fault is told.
func TestAChangedByteIsTold(t *testing.T) {
	good := fileOf(t, chopped(someCells(), 4)...)
	for i := range good {
		for _, by := range []byte{1, 16, 128, 255} {
			l, f := file.Open(replaced(good, i, good[i]^by))
			if f.Code != api.ErrForm || len(l) > 0 {
				t.Errorf("byte %d changed by %d: %d cells, fault %v", i, by, len(l), f)
			}
		}
	}
}
