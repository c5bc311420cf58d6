package merge_test

import (
	"slices"
	"testing"

	"tabulary/api"
	"tabulary/merge"
)

func TestJoin(t *testing.T) {
	a, b, c := put("r", "c", 3, "a"), put("r", "c", 2, "b"), put("r", "c", 1, "c")
	for _, k := range []struct {
		what string
		l    []list
		want list
	}{
		{"nothing", nil, nil},
		{"no lists", []list{}, nil},
		{"a list without cells", []list{nil}, nil},
		{"lists without cells", []list{{}, nil, {}}, nil},
		{"one list", []list{{a, b, c}}, list{a, b, c}},
		{"one behind the other", []list{{a}, {b, c}}, list{a, b, c}},
		{"the older ones in the newer list", []list{{b, c}, {a}}, list{a, b, c}},
		{"one within the other", []list{{a, c}, {b}}, list{a, b, c}},
		{"among lists without cells", []list{nil, {a, c}, {}, {b}, nil}, list{a, b, c}},
		{"all twice", []list{{a, b, c}, {a, b, c}}, list{a, b, c}},
		{"of two Values that of the first list", []list{{put("r", "c", 2, "new")}, {a, b}}, list{a, put("r", "c", 2, "new")}},
		{"of two Values that of the first list, which is the lesser one", []list{{a, b}, {put("r", "c", 2, "new")}}, list{a, b}},
		{"the newer one has no Value", []list{{put("r", "c", 2, "")}, {a, b}}, list{a, put("r", "c", 2, "")}},
		{"the newer one is Gone", []list{{gone("r", "c", 2)}, {a, b}}, list{a, gone("r", "c", 2)}},
		{"the older one is Gone", []list{{a, b}, {gone("r", "c", 2)}}, list{a, b}},
		{"of three the first", []list{{gone("q", "c", 2)}, {put("r", "c", 2, "2")}, {a, b}, {gone("r", "c", 2), c}}, list{gone("q", "c", 2), a, put("r", "c", 2, "2"), c}},
		{"rows ahead of columns, columns ahead of times",
			[]list{{put("s", "a", 9, "")}, {put("r", "b", 9, "")}, {put("r", "a", 2, ""), put("r", "a", 1, "")}, {put("r", "", 0, "")}},
			list{put("r", "", 0, ""), put("r", "a", 2, ""), put("r", "a", 1, ""), put("r", "b", 9, ""), put("s", "a", 9, "")}},
		{"texts by bytes",
			[]list{{put("a", "", 0, ""), put("\xff", "", 0, "")}, {put("Z", "", 0, ""), put("ab", "", 0, ""), put("é", "", 0, "")}},
			list{put("Z", "", 0, ""), put("a", "", 0, ""), put("ab", "", 0, ""), put("é", "", 0, ""), put("\xff", "", 0, "")}},
		{"Row and Col that make one text", []list{{put("ab", "c", 1, "1")}, {put("a", "bc", 1, "2")}}, list{put("a", "bc", 1, "2"), put("ab", "c", 1, "1")}},
		{"the first time and the last", []list{{put("r", "c", 0, "0")}, {put("r", "c", api.MaxNum, "last")}}, list{put("r", "c", api.MaxNum, "last"), put("r", "c", 0, "0")}},
		{"the longest texts",
			[]list{{put(x(api.MaxKey), x(api.MaxKey), 1, x(api.MaxValue))}, {put(x(api.MaxKey), x(api.MaxKey-1), 1, x(api.MaxValue))}},
			list{put(x(api.MaxKey), x(api.MaxKey-1), 1, x(api.MaxValue)), put(x(api.MaxKey), x(api.MaxKey), 1, x(api.MaxValue))}},
	} {
		l, f := merge.Join(k.l)
		wantCells(t, k.what, l, f, k.want)
	}
}

// TestJoinOfTheMostLists: in each order of the lists, and with one cell in all of them.
func TestJoinOfTheMostLists(t *testing.T) {
	all := rising(0, 500)
	for n := 1; n <= 20; n++ {
		l := dealt(all, n)
		for range n {
			l = append(l[1:], l[0])
			got, f := merge.Join(l)
			wantCells(t, "dealt", got, f, all)
		}
		slices.Reverse(l)
		got, f := merge.Join(l)
		wantCells(t, "dealt, the other way round", got, f, all)
		for i := range l {
			l[i] = list{put("r", "c", 1, x(i))}
		}
		got, f = merge.Join(l)
		wantCells(t, "one in all", got, f, l[0])
	}
	got, f := merge.Join(make([]list, 20))
	wantCells(t, "the most lists, without cells", got, f, nil)
}

func TestJoinAtItsLimits(t *testing.T) {
	most := rising(0, api.MaxList)
	many := rising(0, api.MaxList+1)
	for _, k := range []struct {
		what string
		l    []list
	}{
		{"in one list", []list{most}},
		{"in two lists", []list{most[:999], most[999:]}},
		{"in the most lists", dealt(most, 20)},
		{"twice", []list{most, most}},
		{"as often as can be", slices.Repeat([]list{most}, 20)},
		{"one of them twice", []list{most, most[999:]}},
	} {
		l, f := merge.Join(k.l)
		wantCells(t, "the most cells, "+k.what, l, f, most)
	}
	for _, k := range []struct {
		what string
		l    []list
	}{
		{"the last one alone", []list{many[:1000], many[1000:]}},
		{"the first one alone", []list{many[1:], many[:1]}},
		{"in the most lists", dealt(many, 20)},
		{"most of them twice", []list{many[1:], many[:1000]}},
		{"of one row and column", []list{rising(0, api.MaxList), {gone("row100000", "c", 9)}}},
		{"as many as can be", dealt(rising(0, 20*api.MaxList), 20)},
	} {
		l, f := merge.Join(k.l)
		wantNoCells(t, "too many cells, "+k.what, l, f, fault(api.ErrMuch, -1))
	}
}

// TestJoinOfAnyLists: as the library sorts them.
func TestJoinOfAnyLists(t *testing.T) {
	s := number(1)
	for n := range 400 {
		l := anyLists(&s, n%21)
		got, f := merge.Join(l)
		wantCells(t, "Join", got, f, joinedByHand(l))
	}
}

// TestGroupingChangesNothing: neighbours that are joined first, and these again, in all groupings by two ends, and in some of several.
func TestGroupingChangesNothing(t *testing.T) {
	s := number(2)
	for n := range 60 {
		l := anyLists(&s, n%21)
		want := joined(t, l...)
		for to := range len(l) + 1 {
			from := s.below(to + 1)
			grouped := slices.Concat(l[:from], []list{joined(t, l[from:to]...)}, l[to:])
			if len(grouped) <= 20 {
				wantCells(t, "a group joined first", joined(t, grouped...), api.Fault{}, want)
			}
			wantCells(t, "two groups", joined(t, joined(t, l[:to]...), joined(t, l[to:]...)), api.Fault{}, want)
		}
		for len(l) > 1 {
			at := s.below(len(l) - 1)
			l = slices.Concat(l[:at], []list{joined(t, l[at], l[at+1])}, l[at+2:])
			wantCells(t, "two neighbours after the other", joined(t, l...), api.Fault{}, want)
		}
	}
}
