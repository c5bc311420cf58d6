package locate_test

import (
	"fmt"
	"testing"

	"tabulary/api"
	"tabulary/assign"
	"tabulary/locate"
)

// rowsOfFive: of each slot of five its From, rows within, and the last ones ahead of its To.
func rowsOfFive() [][]string {
	return [][]string{{"", "\x00", "a", "b\xff\xff"}, {"c", "c\x00", "d", "g\xff"}, {"h", "h\x00", "k", "l\xff\xff"}, {"m", "m\x00", "q", "s\xff"}, {"t", "t\x00", "z", "\xff\xff", x(40), x(41), x(5000)}}
}

func TestServes(t *testing.T) {
	b := five()
	wantFineBoard(t, b)
	for i, all := range rowsOfFive() {
		s := b.Slots[i]
		for _, row := range all {
			wantServes(t, b, s.Host, s.Turn, row, s.State == 2)
			for _, n := range append(outside(), 1, 2, 3, 4, 5, 6, 7, 8, 9, 11) {
				wantServes(t, b, n, s.Turn, row, s.State == 2 && n == s.Host)
				wantServes(t, b, s.Host, n, row, s.State == 2 && n == s.Turn)
				wantServes(t, b, n, n, row, s.State == 2 && n == s.Host && n == s.Turn)
			}
		}
	}
}

// TestServesInEachState: of the right host and turn, just an open slot is served.
func TestServesInEachState(t *testing.T) {
	for at, all := range rowsOfFive() {
		for state := 1; state <= 3; state++ {
			b := but(five(), func(b *api.Board) { b.Slots[at].State, b.Slots[at].Host = state, 3 })
			wantFineBoard(t, b)
			for _, row := range all {
				wantServes(t, b, 3, b.Slots[at].Turn, row, state == 2)
				wantServes(t, b, 7, b.Slots[at].Turn, row, false)
				wantServes(t, b, 3, b.Slots[at].Turn+1, row, false)
				wantServes(t, b, 3, b.Slots[at].Turn-1, row, false)
			}
		}
		b := but(five(), func(b *api.Board) { b.Slots[at].State, b.Slots[at].Host = 0, 0 })
		for _, row := range all {
			wantServes(t, b, 0, b.Slots[at].Turn, row, false)
			wantServes(t, b, 0, 0, row, false)
		}
	}
}

func TestServesOfNew(t *testing.T) {
	for _, row := range someRows() {
		wantServes(t, assign.New(), 0, 0, row, false)
		wantServes(t, assign.New(), 1, 1, row, false)
	}
}

func TestServesOfTheMost(t *testing.T) {
	b := manySlots(api.MaxParts)
	wantFineBoard(t, b)
	for i, s := range b.Slots {
		wantServes(t, b, 1, i+1, s.Part.From, true)
		wantServes(t, b, 1, i+1, s.Part.From+"\x00", true)
		wantServes(t, b, 1, i+2, s.Part.From, false)
		if i > 0 {
			wantServes(t, b, 1, i, s.Part.From, false)
			wantServes(t, b, 1, i, fmt.Sprintf("row%04d\xff", i-1), true)
		}
	}
}

// wrongBoards: with what chapter 14's Check tells of them.
func wrongBoards() map[api.Fault]api.Board {
	return map[api.Fault]api.Board{
		fault(api.ErrMany, -1):     but(five(), func(b *api.Board) { b.Hosts = make([]api.Host, api.MaxHosts+1) }),
		fault(api.ErrRange, 1):     but(five(), func(b *api.Board) { b.Hosts[1].Epoch = 0 }),
		fault(api.ErrTwice, 2):     but(five(), func(b *api.Board) { b.Hosts[2].ID = 3 }),
		fault(api.ErrRange, -2):    but(five(), func(b *api.Board) { b.Turn = -1 }),
		fault(api.ErrNone, -1001):  {Next: 2},
		fault(api.ErrMany, -1001):  but(five(), func(b *api.Board) { b.Slots = make(slots, api.MaxParts+1) }),
		fault(api.ErrForm, -999):   but(five(), func(b *api.Board) { b.Slots[1].Part.From = "d" }),
		fault(api.ErrTwice, -996):  but(five(), func(b *api.Board) { b.Slots[4].Part.ID = 8 }),
		fault(api.ErrState, -2001): but(five(), func(b *api.Board) { b.Slots[0].Host = 7 }),
		fault(api.ErrNone, -2003):  but(five(), func(b *api.Board) { b.Slots[2].Host = 9 }),
		fault(api.ErrTwice, -2005): but(five(), func(b *api.Board) { b.Slots[4].Turn = 3 }),
	}
}

func TestServesOfWrongBoards(t *testing.T) {
	for want, b := range wrongBoards() {
		wantFault(t, "chapter 14's Check", assign.Check(b), want)
		for _, row := range someRows() {
			for _, turn := range []int{0, 3, 4, 6} {
				for _, host := range []int{0, 3, 7} {
					got, f := locate.Serves(b, host, turn, row)
					wantFault(t, "Serves of a wrong board", f, want)
					if got {
						t.Error("a host serves beside a fault")
					}
				}
			}
		}
	}
}
