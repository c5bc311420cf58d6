package assign_test

import (
	"math"
	"testing"

	"tabulary/api"
)

// wantOfKind: an order leads to just this change, whatever it has beside what its Kind looks at; what is given here is what it looks at.
func wantOfKind(t *testing.T, what string, b api.Board, o api.Order, change func(b *api.Board)) {
	t.Helper()
	wantChange(t, what, b, o, change)
	for _, more := range besides(o) {
		wantChange(t, what+", with more", b, more, change)
	}
}

// wantNotOfKind: likewise, of a fault.
func wantNotOfKind(t *testing.T, what string, b api.Board, o api.Order, want api.Fault) {
	t.Helper()
	wantRefused(t, what, b, o, want)
	for _, more := range besides(o) {
		wantRefused(t, what+", with more", b, more, want)
	}
}

// besides: an order, with whatever may stand where its Kind does not look.
func besides(o api.Order) []api.Order {
	var out []api.Order
	for _, n := range []int{-1, 7, 77, math.MinInt, math.MaxInt} {
		more := o
		if o.Kind != 3 && o.Kind != 4 && o.Kind != 6 {
			more.Host = n
		}
		if o.Kind != 4 && o.Kind != 6 {
			more.Turn = n
		}
		if o.Kind != 7 {
			more.Row = x(max(0, n%100))
		}
		out = append(out, more)
	}
	return out
}

func TestAHostComes(t *testing.T) {
	for _, id := range []int{1, 2, 8, 77, api.MaxNum} {
		wantOfKind(t, "a new host", four(), comes(id), func(b *api.Board) { b.Hosts = append(b.Hosts, hostOf(id, 1, true)) })
		wantOfKind(t, "the first host", boardOf(nil, manySlots(2)), comes(id), func(b *api.Board) { b.Hosts = hosts{hostOf(id, 1, true)} })
	}
	wantOfKind(t, "a host that was there", four(), comes(9), func(b *api.Board) { b.Hosts[2] = hostOf(9, 5, true) })
	alone := boardOf(hosts{hostOf(4, 1, false), hostOf(2, 1, false)}, manySlots(1))
	wantOfKind(t, "the first one of those that were there", alone, comes(4), func(b *api.Board) { b.Hosts[0] = hostOf(4, 2, true) })
	wantOfKind(t, "one whose Epoch is the greatest then", but(four(), func(b *api.Board) { b.Hosts[2].Epoch = api.MaxNum - 1 }), comes(9), func(b *api.Board) { b.Hosts[2] = hostOf(9, api.MaxNum, true) })
}

func TestAHostCanNotCome(t *testing.T) {
	for _, id := range append(outside(), 0) {
		wantNotOfKind(t, "an ID that is none", four(), comes(id), fault(api.ErrRange, -1))
	}
	for _, id := range []int{7, 3} {
		wantNotOfKind(t, "a host that is Alive", four(), comes(id), fault(api.ErrTwice, -1))
		greatest := but(four(), func(b *api.Board) { b.Hosts[0].Epoch, b.Hosts[1].Epoch = api.MaxNum, api.MaxNum })
		wantNotOfKind(t, "a host that is Alive, in the greatest Epoch", greatest, comes(id), fault(api.ErrTwice, -1))
	}
	wantNotOfKind(t, "a host that came too often", but(four(), func(b *api.Board) { b.Hosts[2].Epoch = api.MaxNum }), comes(9), fault(api.ErrMuch, 0))
}

// TestMaxHostsAreThere: there is room for no other one, but each of them may come again.
func TestMaxHostsAreThere(t *testing.T) {
	fewer := boardOf(manyHosts(api.MaxHosts-1), manySlots(1))
	wantOfKind(t, "the last host that may be", fewer, comes(99), func(b *api.Board) { b.Hosts = append(b.Hosts, hostOf(99, 1, true)) })
	for at := range api.MaxHosts {
		b := boardOf(manyHosts(api.MaxHosts), manySlots(1))
		b.Hosts[at].Epoch = 3
		wantNotOfKind(t, "one too many", b, comes(99), fault(api.ErrMany, -1))
		wantNotOfKind(t, "one that is Alive, of MaxHosts", b, comes(at+1), fault(api.ErrTwice, -1))
		wantNotOfKind(t, "an ID that is none, where there are MaxHosts", b, comes(0), fault(api.ErrRange, -1))
		b.Hosts[at].Alive = false
		wantNotOfKind(t, "one too many, though one is not Alive", b, comes(99), fault(api.ErrMany, -1))
		wantOfKind(t, "that which was not Alive", b, comes(at+1), func(b *api.Board) { b.Hosts[at] = hostOf(at+1, 4, true) })
		b.Hosts[at].Epoch = api.MaxNum
		wantNotOfKind(t, "one that came too often, of MaxHosts", b, comes(at+1), fault(api.ErrMuch, 0))
	}
	none := boardOf(manyHosts(api.MaxHosts), manySlots(1))
	for at := range none.Hosts {
		none.Hosts[at].Alive = false
	}
	wantNotOfKind(t, "one too many, though none is Alive", none, comes(99), fault(api.ErrMany, -1))
}

func TestAHostIsLost(t *testing.T) {
	wantOfKind(t, "a host with slots that are opening and closing", four(), isLost(7), func(b *api.Board) {
		b.Hosts[0].Alive = false
		b.Slots[1] = slotOf("c", "m", 4, 0, 0, 6)
		b.Slots[3] = slotOf("t", "", 5, 0, 0, 1)
	})
	wantOfKind(t, "a host with a slot that is open", four(), isLost(3), func(b *api.Board) {
		b.Hosts[1].Alive = false
		b.Slots[2] = slotOf("m", "t", 8, 0, 0, 3)
	})
	for state := 1; state <= 3; state++ {
		all := but(four(), func(b *api.Board) {
			for at := range b.Slots {
				b.Slots[at].State, b.Slots[at].Host = state, 3
			}
		})
		wantOfKind(t, "a host with all slots", all, isLost(3), func(b *api.Board) {
			b.Hosts[1].Alive = false
			for at := range b.Slots {
				b.Slots[at].State, b.Slots[at].Host = 0, 0
			}
		})
		wantOfKind(t, "a host without slots", all, isLost(7), func(b *api.Board) { b.Hosts[0].Alive = false })
	}
	wantOfKind(t, "the last one that is Alive", mustDo(t, four(), isLost(7)), isLost(3), func(b *api.Board) {
		b.Hosts[1].Alive = false
		b.Slots[2] = slotOf("m", "t", 8, 0, 0, 3)
	})
}

func TestAHostCanNotBeLost(t *testing.T) {
	for _, id := range append(outside(), 0, 1, 8, 9, 77, api.MaxNum) {
		wantNotOfKind(t, "a host that is not there, or not Alive", four(), isLost(id), fault(api.ErrNone, -1))
		wantNotOfKind(t, "a host where there is none", boardOf(nil, manySlots(2)), isLost(id), fault(api.ErrNone, -1))
	}
	for _, id := range []int{7, 3} {
		wantNotOfKind(t, "a host that was lost", mustDo(t, four(), isLost(id)), isLost(id), fault(api.ErrNone, -1))
	}
}

// TestAHostComesAgain: without its slots, in another Epoch, at its place.
func TestAHostComesAgain(t *testing.T) {
	b := mustDo(t, four(), isLost(7), comes(7), isLost(7), comes(5), comes(7))
	want := but(four(), func(b *api.Board) {
		b.Hosts = hosts{hostOf(7, 4, true), hostOf(3, 1, true), hostOf(9, 4, false), hostOf(5, 1, true)}
		b.Slots[1] = slotOf("c", "m", 4, 0, 0, 6)
		b.Slots[3] = slotOf("t", "", 5, 0, 0, 1)
	})
	wantBoard(t, "a host that was lost twice", b, api.Fault{}, want)
}

func TestOrdersOfOtherKinds(t *testing.T) {
	for _, kind := range []int{0, 9, -1, 10, -8, math.MinInt, math.MaxInt} {
		for _, id := range []int{7, 11, 4, 8, 5, 0, -1, math.MaxInt} {
			o := api.Order{Kind: kind, ID: id, Host: 7, Turn: 6, Row: "a"}
			wantRefused(t, "another Kind", four(), o, fault(api.ErrKind, 0))
			full := but(four(), func(b *api.Board) { b.Turn, b.Next = api.MaxNum, api.MaxNum })
			wantRefused(t, "another Kind, at the greatest numbers", full, o, fault(api.ErrKind, 0))
		}
	}
}
