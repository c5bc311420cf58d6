package wal_test

import (
	"slices"
	"strconv"
	"testing"

	"tabulary/api"
	"tabulary/wal"
)

func TestApply(t *testing.T) {
	a, b := put("r", "c", 1, "a"), put("r", "c", 2, "b")
	for _, c := range []struct {
		what  string
		l     list
		notes []api.Note
		want  list
	}{
		{"nothing to nothing", nil, nil, nil},
		{"no notes to no cells", list{}, []api.Note{}, nil},
		{"nothing to cells", list{b, a}, nil, list{b, a}},
		{"a note to nothing", nil, []api.Note{note(1, b, a)}, list{b, a}},
		{"ahead of what is there", list{a}, []api.Note{note(1, b)}, list{b, a}},
		{"behind what is there", list{b}, []api.Note{note(1, a)}, list{b, a}},
		{"between what is there", list{put("q", "", 0, ""), put("s", "", 0, "")}, []api.Note{note(1, b, a)},
			list{put("q", "", 0, ""), b, a, put("s", "", 0, "")}},
		{"around what is there", list{b}, []api.Note{note(1, put("r", "b", 0, "x"), put("r", "c", 3, "y"), a, put("r", "d", 9, "z"))},
			list{put("r", "b", 0, "x"), put("r", "c", 3, "y"), b, a, put("r", "d", 9, "z")}},
		{"in the stead of one", list{b, a}, []api.Note{note(1, put("r", "c", 1, "other"))}, list{b, put("r", "c", 1, "other")}},
		{"the same again", list{b, a}, []api.Note{note(1, b, a)}, list{b, a}},
		{"Gone, in the stead of one", list{b, a}, []api.Note{note(1, gone("r", "c", 2))}, list{gone("r", "c", 2), a}},
		{"in the stead of one that is Gone", list{gone("r", "c", 2), a}, []api.Note{note(1, b)}, list{b, a}},
		{"Gone, beside others", list{b, a}, []api.Note{note(1, gone("r", "c", 3))}, list{gone("r", "c", 3), b, a}},
		{"in the stead of an earlier note's", nil, []api.Note{note(1, a), note(2, put("r", "c", 1, "other"))}, list{put("r", "c", 1, "other")}},
		{"in the stead of one, and again", list{a}, []api.Note{note(1, put("r", "c", 1, "x")), note(2, gone("r", "c", 1)), note(3, put("r", "c", 1, "z"))},
			list{put("r", "c", 1, "z")}},
		{"an earlier note that has more", nil, []api.Note{note(1, b, a), note(2, put("r", "c", 1, "x"))}, list{b, put("r", "c", 1, "x")}},
		{"Seqs that do not follow", nil, []api.Note{note(9, a), note(2, put("r", "c", 1, "x")), note(api.MaxNum, b)}, list{b, put("r", "c", 1, "x")}},
		{"one Seq again and again", nil, []api.Note{note(5, b), note(5, a), note(5, put("r", "c", 2, "x"))}, list{put("r", "c", 2, "x"), a}},
		{"the edges", edges(), []api.Note{note(1, edges()...), note(api.MaxNum, edges()[2:5]...)}, edges()},
		{"texts that make one", list{put("a", "bc", 1, "")}, []api.Note{note(1, put("ab", "c", 1, ""))}, list{put("a", "bc", 1, ""), put("ab", "c", 1, "")}},
	} {
		got, f := wal.Apply(c.l, c.notes)
		wantCells(t, "Apply "+c.what, got, f, c.want)
	}
}

// TestApplyByHand: any notes to any cells, held against what the library's sort makes of them.
func TestApplyByHand(t *testing.T) {
	s := number(5)
	for n := range 200 {
		l := anyList(&s, n, "was:")
		notes := anyNotes(&s, 1+s.below(1000), s.below(40))
		got, f := wal.Apply(l, notes)
		wantCells(t, "Apply", got, f, appliedByHand(l, notes))
		// One behind the other: the first ones, and then the others.
		half := s.below(len(notes) + 1)
		first, f := wal.Apply(l, notes[:half])
		wantFault(t, "Apply of the first ones", f, api.Fault{})
		then, f := wal.Apply(first, notes[half:])
		wantCells(t, "Apply of the others", then, f, got)
	}
}

// TestApplyOfWhatIsReplayed: what was put is there again.
func TestApplyOfWhatIsReplayed(t *testing.T) {
	s := number(6)
	for range 20 {
		notes := anyNotes(&s, 1+s.below(1000), s.below(30))
		_, back, f := wal.Replay(logged(t, api.Disk{}, notes...))
		wantFault(t, "Replay", f, api.Fault{})
		got, f := wal.Apply(nil, back)
		wantCells(t, "Apply", got, f, appliedByHand(nil, notes))
	}
}

func TestApplyOfTheMost(t *testing.T) {
	most := rising(0, api.MaxList)
	backwards := dealt(most, 10)
	slices.Reverse(backwards)
	late := slices.Clone(most)
	for i := range late {
		late[i].Value = "late " + strconv.Itoa(i)
	}
	for _, c := range []struct {
		what  string
		l     list
		notes []api.Note
		want  list
	}{
		{"the most notes", nil, dealt(most, 1), most},
		{"the most cells in notes", nil, dealt(most, api.MaxBatch), most},
		{"the last ones first", nil, backwards, most},
		{"the most cells there", most, nil, most},
		{"the most cells in the stead of the most", most, dealt(late, api.MaxBatch), late},
		{"the last of the most", most[:999], []api.Note{note(1, most[999])}, most},
		{"the first of the most", most[1:], []api.Note{note(1, most[0])}, most},
		{"the most notes of the most cells, which are few", nil, slices.Repeat([]api.Note{note(1, late[:20]...), note(2, most[:20]...)}, 500), most[:20]},
		{"the most notes, to the most cells", most, slices.Repeat([]api.Note{note(1, late[5:20]...)}, 1000), slices.Concat(most[:5], late[5:20], most[20:])},
	} {
		got, f := wal.Apply(c.l, c.notes)
		wantCells(t, "Apply: "+c.what, got, f, c.want)
	}
}

func TestApplyOfTooMuch(t *testing.T) {
	many := rising(0, api.MaxList+1)
	for _, c := range []struct {
		what  string
		l     list
		notes []api.Note
	}{
		{"one cell too many", nil, dealt(many, api.MaxBatch)},
		{"one cell too many, the last one", many[:api.MaxList], []api.Note{note(1, many[api.MaxList])}},
		{"one cell too many, the first one", many[1:], []api.Note{note(1, many[0])}},
		{"one cell too many, behind one that is there", many[1:], []api.Note{note(1, many[0], many[1])}},
		{"one cell too many, ahead of notes that are there", many[1:], []api.Note{note(1, many[0]), note(2, many[5]), note(3, many[6])}},
		{"one that is Gone too many", many[1:], []api.Note{note(1, gone("a", "", 0))}},
		{"a newer one of a row that is there, which stays", many[1:], []api.Note{note(1, put(many[1].Row, "c", api.MaxNum, ""))}},
		{"a note of cells too many", many[:api.MaxList-api.MaxBatch+1], []api.Note{note(1, rising(5000, api.MaxBatch)...)}},
		{"the most that may come in", many[:api.MaxList], dealt(rising(3000, 20*api.MaxList), api.MaxBatch)},
	} {
		got, f := wal.Apply(c.l, c.notes)
		wantNoCells(t, "Apply: "+c.what, got, f, fault(api.ErrMuch, -1))
	}
}

// TestApplyTellsFirstWhatCheckSays: of l, whatever is wrong with the notes.
func TestApplyTellsFirstWhatCheckSays(t *testing.T) {
	for _, w := range wrongLists() {
		for _, notes := range [][]api.Note{nil, small(1, 2), make([]api.Note, 2), make([]api.Note, api.MaxList+1), dealt(rising(0, 2000), 20)} {
			got, f := wal.Apply(w.l, notes)
			wantNoCells(t, "Apply to "+w.what, got, f, w.want)
		}
	}
}

func TestApplyOfTooManyNotes(t *testing.T) {
	for _, l := range []list{nil, {put("r", "", 0, "")}, rising(0, api.MaxList)} {
		for _, notes := range [][]api.Note{
			small(1, api.MaxList+1), make([]api.Note, api.MaxList+1), make([]api.Note, 1<<16),
			dealt(rising(0, 20*(api.MaxList+1)), 20), append(make([]api.Note, 1), small(1, api.MaxList)...),
		} {
			got, f := wal.Apply(l, notes)
			wantNoCells(t, "Apply of too many notes", got, f, fault(api.ErrMany, -1))
		}
	}
}

// TestApplyOfWrongNotes: at each place, behind others that are fine, ahead of others that are wrong; also where too many cells would come out.
func TestApplyOfWrongNotes(t *testing.T) {
	fine := []api.Note{note(4, put("r", "c", 1, "")), note(2, edges()...), note(7, rising(0, api.MaxBatch)...)}
	all := wrongNotes()
	for i, w := range all {
		other := all[(i+7)%len(all)]
		for at := range len(fine) + 1 {
			want := fault(w.want.Code, at)
			for _, l := range []list{nil, {put("r", "c", 9, "")}, rising(5000, api.MaxList)} {
				got, f := wal.Apply(l, slices.Concat(fine[:at], []api.Note{w.n}, fine[at:]))
				wantNoCells(t, "Apply of "+w.what, got, f, want)
				got, f = wal.Apply(l, slices.Concat(fine[:at], []api.Note{w.n, other.n}, fine[at:]))
				wantNoCells(t, "Apply of "+w.what+", ahead of "+other.what, got, f, want)
			}
		}
		got, f := wal.Apply(nil, append(small(1, api.MaxList-1), w.n))
		wantNoCells(t, "Apply of "+w.what+", the last of the most", got, f, fault(w.want.Code, api.MaxList-1))
		got, f = wal.Apply(nil, append(dealt(rising(0, 1500), api.MaxBatch), w.n))
		wantNoCells(t, "Apply of "+w.what+", behind too many cells", got, f, fault(w.want.Code, 75))
	}
}
