package seal_test

import (
	"slices"
	"testing"

	"tabulary/api"
	"tabulary/seal"
)

// vaultOf: n copies, and who took each record.
func vaultOf(n int, took ...[]int) api.Vault {
	return api.Vault{Copies: make([]api.Copy, n), Wrote: texts(len(took)), Took: took}
}

// someOf: the first n copies.
func someOf(n int) []int { return []int{0, 1, 2, 3, 4, 5, 6}[:n] }

// TestSureByMost: just most, and one less, and that one that is not sure keeps those behind it from being so.
func TestSureByMost(t *testing.T) {
	for n, most := range map[int]int{1: 1, 2: 2, 3: 2, 4: 3, 5: 3, 6: 4, 7: 4} {
		yes, all, no := someOf(most), someOf(n), someOf(most-1)
		wantSure(t, "nothing", vaultOf(n), 0)
		wantSure(t, "what most took", vaultOf(n, yes), 1)
		wantSure(t, "what too few took", vaultOf(n, no), 0)
		wantSure(t, "what nobody took", vaultOf(n, nil), 0)
		wantSure(t, "all that most took", vaultOf(n, yes, all, yes), 3)
		wantSure(t, "what is ahead of too few", vaultOf(n, all, yes, no), 2)
		wantSure(t, "what is behind too few", vaultOf(n, no, all, all), 0)
		wantSure(t, "what is ahead of too few, and behind them", vaultOf(n, all, no, all), 1)
		wantSure(t, "MaxRecs", vaultOf(n, slices.Repeat([][]int{yes}, api.MaxRecs)...), api.MaxRecs)
	}
}

func TestSureOfWhatDoesNotGoTogether(t *testing.T) {
	for wrote := range 4 {
		for took := range 4 {
			v := vaultOf(3, slices.Repeat([][]int{{0, 1}}, took)...)
			v.Wrote = texts(wrote)
			if wrote == took {
				wantSure(t, "as many", v, wrote)
				continue
			}
			got, f := seal.Sure(v)
			wantFault(t, "Sure of not as many", f, fault(api.ErrForm, 0))
			if got != 0 {
				t.Errorf("Sure of not as many: %d beside a fault", got)
			}
		}
	}
}

// TestSureLooksAtNoMore: whatever copies, records and recoveries are.
func TestSureLooksAtNoMore(t *testing.T) {
	v := vaultOf(3, []int{7, -1}, []int{99}, []int{0, 1})
	wantSure(t, "copies that there are none of", v, 1)
	v.Wrote[0], v.Wrote[1] = long(9999), v.Wrote[2]
	v.Copies = []api.Copy{ended(-1, 5), open(1, texts(500)...), {Ended: 7}}
	v.Heals = make([]api.Heal, 99)
	wantSure(t, "wrong copies, records and recoveries", v, 1)
	wantSure(t, "far too many records", vaultOf(3, slices.Repeat([][]int{{0, 1}}, 5000)...), 5000)
	wantSure(t, "far too many copies", vaultOf(13, someOf(7), someOf(6)), 1)
	wantSure(t, "no copies", vaultOf(0, []int{0}, nil), 1)
	wantSure(t, "the zero vault", api.Vault{}, 0)
}

// TestSureOfWhatIsPlayed: it counts who took a record, not who has it.
func TestSureOfWhatIsPlayed(t *testing.T) {
	s := taken()
	for n, want := range []int{0, 0, 0, 1, 1} {
		wantSure(t, "what is played", mustPlay(t, 3, []string{"a", "b"}, s[:n+1]), want)
	}
	wantSure(t, "what one more has taken", mustPlay(t, 3, []string{"a", "b"}, append(s, bring(1, 1))), 2)
	twice := append(script{write()}, times(5, bring(0, 0))...)
	wantSure(t, "what one copy took twice", mustPlay(t, 3, []string{"a"}, twice), 0)
	byOne := inTurn(script{write(), bring(0, 0), begin(2)}, shutAll(0, 0, 1), script{choose(0)}, endAll(0, 0, 1, 2))
	wantSure(t, "what a recovery has given to all", mustPlay(t, 3, []string{"a"}, byOne), 0)
}
