package seal_test

import (
	"fmt"
	"math"
	"slices"
	"strconv"
	"testing"

	"tabulary/api"
	"tabulary/seal"
)

// numbersOfAllKinds: edges, and far beyond them.
func numbersOfAllKinds() []int {
	return []int{math.MinInt, math.MinInt + 1, -1000000, -2, -1, 0, 1, 2, 3, 7, 8, 99, 100, 101, api.MaxNum, api.MaxNum + 1, math.MaxInt - 1, math.MaxInt}
}

// recsOfAllKinds: none, some, too many, and too long.
func recsOfAllKinds() [][]string {
	return [][]string{nil, {}, {"a"}, {"a", "", "\xff"}, texts(api.MaxRecs), texts(api.MaxRecs + 1), texts(9000), {"a", long(api.MaxValue)}, {"a", long(api.MaxValue + 1)}, {long(100000)}}
}

// copyCalls: what all calls but Play and Sure answer.
func copyCalls(c api.Copy, a, b int, recs []string) string {
	rec := ""
	if len(recs) > 0 {
		rec = recs[len(recs)-1]
	}
	appended, f1 := seal.Append(c, a, b, rec)
	shut, f2 := seal.Close(c, a)
	done, f3 := seal.End(c, a, recs)
	chosen, f4 := seal.Choose(b, []api.Copy{c})
	more, f5 := seal.Choose(b, []api.Copy{c, shut, done})
	return fmt.Sprintln(seal.Check(c), appended, f1, shut, f2, done, f3, chosen, f4, more, f5)
}

// TestNoCallPanics: numbers and records of all kinds, and twice the same is answered.
func TestNoCallPanics(t *testing.T) {
	numbers, recs := numbersOfAllKinds(), recsOfAllKinds()
	for i, a := range numbers {
		for j, b := range numbers {
			for k, l := range recs {
				c := api.Copy{Epoch: numbers[(i+k)%len(numbers)], Closed: (i+j)%2 == 0, Recs: recs[(i+j+k)%len(recs)], Ended: numbers[(j+k)%len(numbers)]}
				if k%2 == 0 {
					c.Epoch, c.Ended = max(0, min(i, a)), 0
				}
				if first, then := copyCalls(c, a, b, l), copyCalls(c, a, b, l); first != then {
					t.Errorf("of epochs %d and %d, %d and %d is answered %.200s, then %.200s", c.Epoch, c.Ended, a, b, first, then)
				}
			}
		}
	}
}

// playCalls: what Play answers, and Sure of that.
func playCalls(n int, recs []string, s script) string {
	v, f1 := seal.Play(n, recs, s)
	sure, f2 := seal.Sure(v)
	return fmt.Sprintln(v, f1, sure, f2)
}

// TestNoScriptPanics: deeds of all kinds, behind none and behind others.
func TestNoScriptPanics(t *testing.T) {
	numbers := numbersOfAllKinds()
	for _, kind := range append(numbers, 4, 5, 6) {
		for _, who := range numbers {
			for _, n := range numbers {
				d := api.Deed{Kind: kind, Who: who, N: n}
				for _, s := range []script{{d}, append(begun(), d, d, d)} {
					if first, then := playCalls(3, []string{"a", "b", "c"}, s), playCalls(3, []string{"a", "b", "c"}, s); first != then {
						t.Errorf("of %v is answered %s, then %s", s, first, then)
					}
				}
			}
		}
	}
	for _, n := range numbers {
		for _, recs := range recsOfAllKinds() {
			playCalls(n, recs, nil)
			playCalls(n, recs, begun())
			playCalls(n, recs, make(script, 5000))
		}
	}
}

// TestNoVaultPanics: Sure of vaults of all kinds.
func TestNoVaultPanics(t *testing.T) {
	for _, took := range [][][]int{nil, {}, {nil}, {{}}, {{-1, 9, 9}}, {nil, {1}}, {numbersOfAllKinds(), nil}} {
		for _, wrote := range recsOfAllKinds() {
			for n := range 10 {
				v := api.Vault{Copies: make([]api.Copy, n), Wrote: wrote, Took: took, Heals: make([]api.Heal, n)}
				first, f := seal.Sure(v)
				then, g := seal.Sure(v)
				if first != then || f != g || first < 0 || first > len(took) {
					t.Errorf("Sure of %d copies and %v: %d, %v, then %d, %v", n, took, first, f, then, g)
				}
			}
		}
	}
}

// roomy: a list with more behind its length.
func roomy[T any](l []T, behind ...T) []T {
	return slices.Concat(l, behind)[:len(l)]
}

// TestArgumentsStay: nothing that is handed in is written to, nor what lies behind its length; and that is not read.
func TestArgumentsStay(t *testing.T) {
	most := texts(api.MaxRecs)
	for _, c := range []api.Copy{{}, open(1, "a"), closed(2, "a", "b"), ended(3, 3, "a"), open(1, most...), open(1, most[:99]...)} {
		for _, recs := range [][]string{nil, {"x"}, {"x", "y"}, most} {
			for at := -1; at <= len(c.Recs)+1; at++ {
				alone := copyCalls(c, 5, at, recs)
				full := c
				full.Recs = roomy(c.Recs, "behind", long(999))
				room := roomy(recs, "behind", long(999))
				got := copyCalls(full, 5, at, room)
				if got != alone {
					t.Fatalf("with room behind is answered %s, alone %s", got, alone)
				}
				wantRoom(t, full.Recs, c.Recs)
				wantRoom(t, room, recs)
			}
		}
	}
}

// wantRoom: a list and what lies behind it is as it was.
func wantRoom(t *testing.T, room, want []string) {
	t.Helper()
	all := room[:len(room)+2]
	if !slices.Equal(room, want) || all[len(room)] != "behind" || all[len(room)+1] != long(999) {
		t.Fatalf("%v is changed to %v", want, all)
	}
}

// TestDeedsAndRecordsStay: the same of Play.
func TestDeedsAndRecordsStay(t *testing.T) {
	s := number(7)
	for range 300 {
		recs := texts(s.below(5))
		l := anyScript(&s, 3, recs, 60)
		room, deeds := roomy(recs, "behind", long(999)), roomy(l, write(), api.Deed{Kind: 9})
		if full, alone := playCalls(3, room, deeds), playCalls(3, recs, l); full != alone {
			t.Fatalf("with room behind is answered %s, alone %s", full, alone)
		}
		wantRoom(t, room, recs)
		if !slices.Equal(deeds, l) || !slices.Equal(deeds[:len(l)+2][len(l):], script{write(), {Kind: 9}}) {
			t.Fatalf("of %v, what was handed in is changed", l)
		}
	}
}

// TestSaidStays: the same of what Choose is given.
func TestSaidStays(t *testing.T) {
	said := roomy([]api.Copy{closed(2, "a"), ended(4, 3, "b", "c"), closed(5)}, ended(9, 9, "z"), open(-1))
	wantChosen(t, "some with more behind them", 3, said, "b", "c")
	all := said[:5]
	want := []api.Copy{closed(2, "a"), ended(4, 3, "b", "c"), closed(5), ended(9, 9, "z"), open(-1)}
	if !slices.EqualFunc(all, want, sameCopy) {
		t.Errorf("what was said is changed to %v", all)
	}
}

// fill writes to all memory of a list, also behind its length.
func fill[T any](l []T, with T) {
	for i := range l[:cap(l)] {
		l[:cap(l)][i] = with
	}
}

// isFull tells whether all memory of a list is what it was filled with.
func isFull[T comparable](l []T, with T) bool {
	for _, x := range l[:cap(l)] {
		if x != with {
			return false
		}
	}
	return true
}

// listsOf: all lists of records, and of numbers, of a vault.
func listsOf(v api.Vault) (recs [][]string, numbers [][]int) {
	recs = append(recs, v.Wrote)
	for _, c := range v.Copies {
		recs = append(recs, c.Recs)
	}
	numbers = append(numbers, v.Took...)
	for _, h := range v.Heals {
		recs = append(recs, h.Recs)
		for _, c := range h.Said {
			recs = append(recs, c.Recs)
		}
		numbers = append(numbers, h.Heard, h.Ends)
	}
	return recs, numbers
}

// wantApart: no two lists of a vault share memory.
func wantApart(t *testing.T, v api.Vault) {
	t.Helper()
	recs, numbers := listsOf(v)
	for i, l := range recs {
		fill(l, strconv.Itoa(i))
	}
	for i, l := range numbers {
		fill(l, i)
	}
	for i, l := range recs {
		if !isFull(l, strconv.Itoa(i)) {
			t.Fatalf("the list of records %d shares memory with another one", i)
		}
	}
	for i, l := range numbers {
		if !isFull(l, i) {
			t.Fatalf("the list of numbers %d shares memory with another one", i)
		}
	}
	fill(v.Copies, open(-1))
	for i, h := range v.Heals {
		fill(h.Said, open(i))
	}
	for i, h := range v.Heals {
		for _, c := range h.Said[:cap(h.Said)] {
			if c.Epoch != i {
				t.Fatalf("what recovery %d was said shares memory with another list", i)
			}
		}
	}
}

// TestVaultsAreNewMemory: no two lists of one share any, nor any with what was handed in, nor with another answer.
func TestVaultsAreNewMemory(t *testing.T) {
	s := number(8)
	for range 500 {
		n, recs := 1+s.below(7), texts(s.below(6))
		l := anyScript(&s, n, recs, 150)
		deeds := slices.Clone(l)
		want := playCalls(n, recs, l)
		other := mustPlay(t, n, recs, l)
		wantApart(t, mustPlay(t, n, recs, l))
		if got := playCalls(n, recs, l); got != want {
			t.Fatalf("behind a change to an answer is answered %s, want %s", got, want)
		}
		if !slices.Equal(recs, texts(len(recs))) || !slices.Equal(l, deeds) {
			t.Fatalf("what was handed in changes with an answer")
		}
		fill(recs, "changed")
		if again := mustPlay(t, n, texts(len(recs)), l); !sameVault(other, again) {
			t.Fatalf("an answer is %v behind changes to another one and to the records, want %v", other, again)
		}
	}
}

// TestCopiesAreNewMemory: a change to an answer does not change what was handed in, nor the other way round.
func TestCopiesAreNewMemory(t *testing.T) {
	recs := slices.Grow(texts(3), 9)
	c := open(1, recs...)
	given := slices.Grow([]string{"x", "y"}, 9)
	calls := map[string]func() []string{
		"Append":                  func() []string { out, _ := seal.Append(c, 2, 3, "b"); return out.Recs },
		"Append of what is there": func() []string { out, _ := seal.Append(c, 2, 2, "r2"); return out.Recs },
		"Close":                   func() []string { out, _ := seal.Close(c, 2); return out.Recs },
		"End":                     func() []string { out, _ := seal.End(c, 2, given); return out.Recs },
		"Choose":                  func() []string { out, _ := seal.Choose(1, []api.Copy{closed(1, recs...)}); return out },
	}
	for what, call := range calls {
		first, then := call(), call()
		want := slices.Clone(then)
		fill(first, "changed")
		if !slices.Equal(then, want) || len(want) < 2 {
			t.Errorf("%s: one answer changes with another one", what)
		}
		if !slices.Equal(recs, texts(3)) || !slices.Equal(given, []string{"x", "y"}) {
			t.Fatalf("%s: what was handed in changes with the answer", what)
		}
	}
}
