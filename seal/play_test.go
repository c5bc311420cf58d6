package seal_test

import (
	"slices"
	"testing"

	"tabulary/api"
)

// TestPlayOfNothing: vaults of each size, in which nothing has happened.
func TestPlayOfNothing(t *testing.T) {
	for n := 1; n <= api.MaxNodes; n++ {
		want := api.Vault{Copies: make([]api.Copy, n)}
		wantVault(t, "nothing", n, nil, nil, want)
		wantVault(t, "nothing, with records to write", n, texts(api.MaxRecs), script{}, want)
		wantVault(t, "an empty script with deeds behind it", n, []string{"a"}, script{write()}[:0], want)
	}
}

func TestPlayOfWriting(t *testing.T) {
	recs := []string{"a", "", "b", "a"}
	for n := range len(recs) + 1 {
		want := api.Vault{Copies: make([]api.Copy, 2), Wrote: recs[:n], Took: make([][]int, n)}
		wantVault(t, "records that are written", 2, recs, times(n, write()), want)
	}
	most := texts(api.MaxRecs)
	wantVault(t, "MaxRecs records that are written", 1, most, times(api.MaxRecs, write()), api.Vault{Copies: make([]api.Copy, 1), Wrote: most, Took: make([][]int, api.MaxRecs)})
	// Of what is written, Who and N are not looked at.
	wantVault(t, "a record that is written, whoever it is", 1, recs, script{{Kind: 0, Who: -5, N: 1 << 40}}, api.Vault{Copies: make([]api.Copy, 1), Wrote: recs[:1], Took: make([][]int, 1)})
}

// TestPlayOfAppending: in epoch 1; a copy takes what comes next, or what it has, each once.
func TestPlayOfAppending(t *testing.T) {
	recs := []string{"a", "b"}
	wrote := times(2, write())
	for _, c := range []struct {
		what   string
		s      script
		copies []api.Copy
		took   [][]int
	}{
		{"the first record", script{bring(1, 0)}, []api.Copy{{}, open(1, "a"), {}}, [][]int{{1}, nil}},
		{"both records", script{bring(1, 0), bring(1, 1)}, []api.Copy{{}, open(1, "a", "b"), {}}, [][]int{{1}, {1}}},
		{"the second record too early", script{bring(1, 1)}, []api.Copy{{}, {}, {}}, [][]int{nil, nil}},
		{"the second record too early, and the first one", script{bring(1, 1), bring(1, 0)}, []api.Copy{{}, open(1, "a"), {}}, [][]int{{1}, nil}},
		{"a record twice", script{bring(2, 0), bring(2, 0)}, []api.Copy{{}, {}, open(1, "a")}, [][]int{{2}, nil}},
		{"a record again, behind the other one", script{bring(2, 0), bring(2, 1), bring(2, 0), bring(2, 1)}, []api.Copy{{}, {}, open(1, "a", "b")}, [][]int{{2}, {2}}},
		{"a record to all, in the order in which they came", script{bring(2, 0), bring(0, 0), bring(2, 0), bring(1, 0), bring(0, 1)}, []api.Copy{open(1, "a", "b"), open(1, "a"), open(1, "a")}, [][]int{{2, 0, 1}, {0}}},
	} {
		wantVault(t, c.what, 3, recs, inTurn(wrote, c.s), api.Vault{Copies: c.copies, Wrote: recs, Took: c.took})
	}
	same := []string{"a", "a"}
	wantVault(t, "two records with one text", 1, same, inTurn(wrote, script{bring(0, 0), bring(0, 1)}), api.Vault{Copies: []api.Copy{open(1, "a", "a")}, Wrote: same, Took: [][]int{{0}, {0}}})
}

// TestPlayOfMaxRecs: all of them, by all copies, each brought twice.
func TestPlayOfMaxRecs(t *testing.T) {
	recs := texts(api.MaxRecs)
	want := api.Vault{Wrote: recs, Took: slices.Repeat([][]int{{0, 1, 2, 3, 4, 5, 6}}, api.MaxRecs)}
	for range api.MaxNodes {
		want.Copies = append(want.Copies, open(1, recs...))
	}
	s := times(api.MaxRecs, write())
	for n := range recs {
		for who := range api.MaxNodes {
			s = append(s, bring(who, n), bring(who, n))
		}
	}
	wantVault(t, "MaxRecs records", api.MaxNodes, recs, s, want)
}

// taken: three copies; 0 and 1 have a, and 0 has b, too.
func taken() script {
	return script{write(), write(), bring(0, 0), bring(1, 0), bring(0, 1)}
}

// takenVault is what comes of taken, with these copies and recoveries.
func takenVault(copies []api.Copy, heals ...api.Heal) api.Vault {
	return api.Vault{Copies: copies, Wrote: []string{"a", "b"}, Took: [][]int{{0, 1}, {0}}, Heals: heals}
}

func wantTaken(t *testing.T, what string, s script, want api.Vault) {
	t.Helper()
	wantVault(t, what, 3, []string{"a", "b"}, inTurn(taken(), s), want)
}

func TestPlayOfRecoveriesThatBegin(t *testing.T) {
	copies := []api.Copy{open(1, "a", "b"), open(1, "a"), {}}
	wantTaken(t, "no recovery", nil, takenVault(copies))
	wantTaken(t, "a recovery", script{begin(2)}, takenVault(copies, api.Heal{Epoch: 2}))
	wantTaken(t, "recoveries, whatever their epochs", script{begin(7), begin(api.MaxNum), begin(2)}, takenVault(copies, api.Heal{Epoch: 7}, api.Heal{Epoch: api.MaxNum}, api.Heal{Epoch: 2}))
	wantTaken(t, "a recovery, whoever it is", script{{Kind: 2, Who: -9, N: 4}}, takenVault(copies, api.Heal{Epoch: 4}))
}

func TestPlayOfClosing(t *testing.T) {
	a, b, c := open(1, "a", "b"), open(1, "a"), api.Copy{}
	heal := func(epoch int, heard []int, said ...api.Copy) api.Heal {
		return api.Heal{Epoch: epoch, Heard: heard, Said: said}
	}
	wantTaken(t, "a copy that is closed", script{begin(5), shut(1, 0)}, takenVault([]api.Copy{a, closed(5, "a"), c}, heal(5, []int{1}, closed(5, "a"))))
	wantTaken(t, "a copy that is closed, and was empty", script{begin(5), shut(2, 0)}, takenVault([]api.Copy{a, b, closed(5)}, heal(5, []int{2}, closed(5))))
	all := []api.Copy{closed(5, "a", "b"), closed(5, "a"), closed(5)}
	wantTaken(t, "all copies, in the order in which they are closed", script{begin(5), shut(2, 0), shut(0, 0), shut(1, 0)}, takenVault(all, heal(5, []int{2, 0, 1}, all[2], all[0], all[1])))
	wantTaken(t, "copies that are closed twice", script{begin(5), shut(2, 0), shut(0, 0), shut(2, 0), shut(1, 0), shut(0, 0)}, takenVault(all, heal(5, []int{2, 0, 1}, all[2], all[0], all[1])))
	two := []api.Copy{a, closed(6, "a"), c}
	wantTaken(t, "a copy that two close", script{begin(5), begin(6), shut(1, 0), shut(1, 1)}, takenVault(two, heal(5, []int{1}, closed(5, "a")), heal(6, []int{1}, closed(6, "a"))))
	wantTaken(t, "a copy that an older one closes too late", script{begin(5), begin(6), shut(1, 1), shut(1, 0)}, takenVault(two, heal(5, nil), heal(6, []int{1}, closed(6, "a"))))
	wantTaken(t, "a copy that an older one closed, and closes too late again", script{begin(5), begin(6), shut(1, 0), shut(1, 1), shut(1, 0)}, takenVault(two, heal(5, []int{1}, closed(5, "a")), heal(6, []int{1}, closed(6, "a"))))
}

// TestPlayOfAppendingTooLate: a closed copy takes nothing, neither what is new nor what it has.
func TestPlayOfAppendingTooLate(t *testing.T) {
	want := takenVault([]api.Copy{open(1, "a", "b"), closed(2, "a"), {}}, api.Heal{Epoch: 2, Heard: []int{1}, Said: []api.Copy{closed(2, "a")}})
	wantTaken(t, "records for a closed copy", script{begin(2), shut(1, 0), bring(1, 0), bring(1, 1)}, want)
	s := inTurn(taken(), script{begin(2)}, shutAll(0, 1, 2), script{choose(0), end(0, 0), bring(0, 1), bring(2, 0), end(2, 0), bring(2, 0)})
	v := mustPlay(t, 3, []string{"a", "b"}, s)
	if want := [][]int{{0, 1}, {0}}; !slices.EqualFunc(v.Took, want, slices.Equal[[]int]) {
		t.Errorf("behind a recovery, records are taken by %v, want %v", v.Took, want)
	}
}

// TestPlayOfChoosing: by most, once.
func TestPlayOfChoosing(t *testing.T) {
	for _, c := range []struct {
		what string
		s    script
		has  bool
		recs []string
	}{
		{"no copy", script{choose(0)}, false, nil},
		{"too few", script{shut(0, 0), choose(0)}, false, nil},
		{"one copy twice", script{shut(0, 0), shut(0, 0), choose(0)}, false, nil},
		{"too few, and then most", script{shut(1, 0), choose(0), shut(2, 0), choose(0)}, true, []string{"a"}},
		{"most, of which one has more", script{shut(1, 0), shut(0, 0), choose(0)}, true, []string{"a", "b"}},
		{"most, of which one has none", script{shut(2, 0), shut(1, 0), choose(0)}, true, []string{"a"}},
		{"all", script{shut(2, 0), shut(1, 0), shut(0, 0), choose(0)}, true, []string{"a", "b"}},
		{"most, and then one more", script{shut(2, 0), shut(1, 0), choose(0), shut(0, 0), choose(0)}, true, []string{"a"}},
		{"most, twice", script{shut(2, 0), shut(1, 0), choose(0), choose(0)}, true, []string{"a"}},
	} {
		h := mustPlay(t, 3, []string{"a", "b"}, inTurn(taken(), script{begin(2)}, c.s)).Heals[0]
		if h.Has != c.has || !slices.Equal(h.Recs, c.recs) {
			t.Errorf("by %s is chosen %v, %v, want %v, %v", c.what, h.Has, h.Recs, c.has, c.recs)
		}
	}
	h := mustPlay(t, 1, nil, script{begin(2), shut(0, 0), choose(0)}).Heals[0]
	if !h.Has || len(h.Recs) != 0 {
		t.Errorf("of nothing is chosen %v, %v", h.Has, h.Recs)
	}
}

// TestPlayOfClosingBehindTheChoice: the copy is closed, but is not heard.
func TestPlayOfClosingBehindTheChoice(t *testing.T) {
	s := script{begin(5), shut(1, 0), shut(2, 0), choose(0), shut(0, 0), shut(1, 0)}
	copies := []api.Copy{closed(5, "a", "b"), closed(5, "a"), closed(5)}
	want := api.Heal{Epoch: 5, Heard: []int{1, 2}, Said: copies[1:], Has: true, Recs: []string{"a"}}
	wantTaken(t, "a copy that is closed behind the choice", s, takenVault(copies, want))
}

func TestPlayOfEnding(t *testing.T) {
	chosen := script{begin(5), shut(1, 0), shut(2, 0), choose(0)}
	a, b, c := open(1, "a", "b"), closed(5, "a"), closed(5)
	heal := func(ends ...int) api.Heal {
		return api.Heal{Epoch: 5, Heard: []int{1, 2}, Said: []api.Copy{b, c}, Has: true, Recs: []string{"a"}, Ends: ends}
	}
	done := ended(5, 5, "a")
	wantTaken(t, "no copy that is ended", chosen, takenVault([]api.Copy{a, b, c}, heal()))
	wantTaken(t, "a copy that is ended", append(chosen, end(2, 0)), takenVault([]api.Copy{a, b, done}, heal(2)))
	wantTaken(t, "a copy that is ended twice", append(chosen, end(2, 0), end(2, 0)), takenVault([]api.Copy{a, b, done}, heal(2)))
	wantTaken(t, "a copy that is ended, and was never closed", append(chosen, end(0, 0)), takenVault([]api.Copy{done, b, c}, heal(0)))
	wantTaken(t, "all copies, in the order in which they are ended", append(chosen, end(2, 0), end(0, 0), end(2, 0), end(1, 0), end(0, 0)), takenVault([]api.Copy{done, done, done}, heal(2, 0, 1)))
	wantTaken(t, "a copy that is closed again, and was ended", append(chosen, end(2, 0), shut(2, 0)), takenVault([]api.Copy{a, b, done}, heal(2)))
}

// TestPlayOfEndingTooEarly: ahead of the choice nothing happens.
func TestPlayOfEndingTooEarly(t *testing.T) {
	heal := api.Heal{Epoch: 5, Heard: []int{1}, Said: []api.Copy{closed(5, "a")}}
	want := takenVault([]api.Copy{open(1, "a", "b"), closed(5, "a"), {}}, heal)
	wantTaken(t, "copies that are ended ahead of the choice", script{begin(5), end(0, 0), shut(1, 0), end(1, 0), end(2, 0), choose(0), end(1, 0)}, want)
}

// TestPlayOfEndingTooLate: a copy that a later recovery has closed is not ended by an older one.
func TestPlayOfEndingTooLate(t *testing.T) {
	s := script{begin(5), begin(6), shut(1, 0), shut(2, 0), choose(0), shut(1, 1), end(1, 0), end(2, 0)}
	first := api.Heal{Epoch: 5, Heard: []int{1, 2}, Said: []api.Copy{closed(5, "a"), closed(5)}, Has: true, Recs: []string{"a"}, Ends: []int{2}}
	second := api.Heal{Epoch: 6, Heard: []int{1}, Said: []api.Copy{closed(6, "a")}}
	copies := []api.Copy{open(1, "a", "b"), closed(6, "a"), ended(5, 5, "a")}
	wantTaken(t, "a copy that is ended too late", s, takenVault(copies, first, second))
	// The second one hears of what the first one has ended, and goes on with that.
	second.Heard, second.Has, second.Recs = []int{1, 0, 2}, true, []string{"a"}
	second.Said = append(second.Said, closed(6, "a", "b"), ended(6, 5, "a"))
	second.Ends = []int{0}
	copies = []api.Copy{ended(6, 6, "a"), closed(6, "a"), ended(6, 5, "a")}
	wantTaken(t, "what was ended, by a later one", append(s, shut(0, 1), shut(2, 1), choose(1), end(0, 1), end(0, 0)), takenVault(copies, first, second))
}

// TestWhatWasSaidStays: whatever becomes of the copy.
func TestWhatWasSaidStays(t *testing.T) {
	s := inTurn(taken(), script{begin(5), begin(6)}, shutAll(0, 0, 1, 2), shutAll(1, 2, 1), script{choose(1)}, endAll(1, 0, 1, 2), script{choose(0)})
	v := mustPlay(t, 3, []string{"a", "b"}, s)
	want := api.Heal{Epoch: 5, Heard: []int{0, 1, 2}, Said: []api.Copy{closed(5, "a", "b"), closed(5, "a"), closed(5)}, Has: true, Recs: []string{"a", "b"}}
	if !sameHeal(v.Heals[0], want) {
		t.Errorf("a recovery whose copies others have ended is %v, want %v", v.Heals[0], want)
	}
	for i, c := range v.Copies {
		if !sameCopy(c, ended(6, 6, "a")) {
			t.Errorf("copy %d is %v", i, c)
		}
	}
}

// TestWritingGoesOn: the writer knows of no recovery, and copies that none has closed take what it brings.
func TestWritingGoesOn(t *testing.T) {
	s := script{begin(2), shut(0, 0), write(), bring(0, 0), bring(1, 0), bring(2, 0), shut(1, 0), choose(0), write(), bring(1, 1), bring(2, 1)}
	want := api.Vault{
		Copies: []api.Copy{closed(2), closed(2, "a"), open(1, "a", "b")}, Wrote: []string{"a", "b"}, Took: [][]int{{1, 2}, {2}},
		Heals: []api.Heal{{Epoch: 2, Heard: []int{0, 1}, Said: []api.Copy{closed(2), closed(2, "a")}, Has: true, Recs: []string{"a"}}},
	}
	wantVault(t, "writing that goes on", 3, []string{"a", "b", "c"}, s, want)
}
