package lease_test

import (
	"slices"
	"testing"

	"tabulary/api"
)

// TestPlayOfNothing: a court of each size, in which nothing has happened.
func TestPlayOfNothing(t *testing.T) {
	for clients := 1; clients <= 8; clients++ {
		want := api.Court{Clocks: make([]int, clients), Trusts: make([]api.Trust, clients)}
		wantCourt(t, "nothing", 8, clients, nil, want)
		wantCourt(t, "an empty script", 4, clients, script{}, want)
		wantCourt(t, "an empty script with deeds behind it", 1000000, clients, script{tick(1)}[:0], want)
	}
}

// one: a court of one client, its clock and its trust.
func one(now int, l api.Lease, clock int, tr api.Trust) api.Court {
	return api.Court{Now: now, Lease: l, Clocks: []int{clock}, Trusts: []api.Trust{tr}}
}

func TestPlayOfOneClient(t *testing.T) {
	held := leaseOf(1, 1, 8)
	sent, granted := one(0, api.Lease{}, 0, api.Trust{}), one(0, held, 0, api.Trust{})
	sent.Wishes = []api.Wish{wish(0, 0, 0)}
	granted.Replies = []api.Reply{reply(0, 1, 6)}
	wantCourt(t, "a wish", 8, 1, asked(0)[:1], sent)
	wantCourt(t, "a wish that arrives", 8, 1, asked(0)[:2], granted)
	wantCourt(t, "a reply that arrives", 8, 1, asked(0), one(0, held, 0, trust(1, 6)))
	wantCourt(t, "a wish that is lost", 8, 1, script{send(0), wishIsLost(0)}, one(0, api.Lease{}, 0, api.Trust{}))
	wantCourt(t, "a reply that is lost", 8, 1, script{send(0), wishComes(0), replyIsLost(0)}, one(0, held, 0, api.Trust{}))
	wantCourt(t, "a trust that is forgotten", 8, 1, append(asked(0), forget(0)), one(0, held, 0, api.Trust{}))
	wantCourt(t, "a trust that never was, and is forgotten", 8, 1, script{forget(0)}, one(0, api.Lease{}, 0, api.Trust{}))
	again := sent
	again.Wishes = []api.Wish{wish(0, 0, 0), wish(0, 0, 0)}
	wantCourt(t, "a wish that is on its way once more", 8, 1, script{send(0), wishAgain(0)}, again)
}

// TestClocks: each one goes on alone, and by how much it is told.
func TestClocks(t *testing.T) {
	s := script{tick(3), step(0, 5), tick(0), step(2, 7), step(0, 1000000), step(1, 0), tick(1000000), step(2, 1)}
	want := api.Court{Now: 1000003, Clocks: []int{1000005, 0, 8}, Trusts: make([]api.Trust, 3)}
	wantCourt(t, "clocks", 8, 3, s, want)
	// The granter's clock is nobody's.
	wantCourt(t, "the granter's clock, whoever it is", 8, 1, script{{Kind: 0, Who: 99, N: 3}, {Kind: 0, Who: -1, N: 4}}, one(7, api.Lease{}, 0, api.Trust{}))
}

// TestWhenAWishIsSent: by the sender's clock, and with the epoch in which it trusts then.
func TestWhenAWishIsSent(t *testing.T) {
	for clock, epoch := range map[int]int{0: 1, 1: 1, 5: 1, 6: 0, 7: 0, 100: 0} {
		s := inTurn(asked(0), script{tick(3), step(0, clock), step(1, 99), send(0)})
		got := mustPlay(t, 8, 2, s).Wishes
		if want := []api.Wish{wish(0, clock, epoch)}; !slices.Equal(got, want) {
			t.Errorf("at %d is sent %v, want %v", clock, got, want)
		}
	}
	s := inTurn(asked(0), script{send(1), send(0), forget(0), send(0)})
	want := []api.Wish{wish(1, 0, 0), wish(0, 0, 1), wish(0, 0, 0)}
	if got := mustPlay(t, 8, 2, s).Wishes; !slices.Equal(got, want) {
		t.Errorf("one who does not trust, one who does, and one who has forgotten send %v, want %v", got, want)
	}
}

// TestWishGoesWithWhatItWasSentWith: not with what is so when it arrives.
func TestWishGoesWithWhatItWasSentWith(t *testing.T) {
	s := inTurn(script{step(0, 10), send(0)}, script{step(0, 90), tick(50), wishComes(0)})
	c := mustPlay(t, 8, 1, s)
	if want := []api.Reply{reply(0, 1, 16)}; c.Lease != leaseOf(1, 1, 58) || !slices.Equal(c.Replies, want) {
		t.Errorf("of a late wish come %v and %v", c.Lease, c.Replies)
	}
	s = append(s, replyComes(0), send(0))
	wantCourt(t, "a trust that ended ahead of its coming", 8, 1, s, api.Court{Now: 50, Lease: leaseOf(1, 1, 58), Clocks: []int{100}, Trusts: []api.Trust{trust(1, 16)}, Wishes: []api.Wish{wish(0, 100, 0)}})
}

func TestRenewalsInACourt(t *testing.T) {
	held := inTurn(asked(0), script{tick(5), step(0, 5), send(0)})
	wantCourt(t, "a renewal", 8, 1, append(held, wishComes(0), replyComes(0)), one(5, leaseOf(1, 1, 13), 5, trust(1, 11)))
	wantCourt(t, "a renewal just ahead of the end", 8, 1, append(held, tick(2), wishComes(0), replyComes(0)), one(7, leaseOf(1, 1, 15), 5, trust(1, 11)))
	wantCourt(t, "a renewal that is too late", 8, 1, append(held, tick(3), wishComes(0)), one(8, leaseOf(1, 1, 8), 5, trust(1, 6)))
	// Once it ends, another one gets it, and the former one's wish to keep it is of another holder and epoch.
	s := inTurn(held, script{tick(3), send(1), wishComes(1), wishComes(0)})
	c := mustPlay(t, 8, 2, s)
	if c.Lease != leaseOf(2, 2, 16) || len(c.Wishes) != 0 || !slices.Equal(c.Replies, []api.Reply{reply(1, 2, 6)}) {
		t.Errorf("a renewal of what another one holds: %v", c)
	}
	// The same one has got it anew, in another epoch.
	s = inTurn(held, script{tick(3), forget(0), send(0), wishComes(1), wishComes(0)})
	want := one(8, leaseOf(1, 2, 16), 5, api.Trust{})
	want.Replies = []api.Reply{reply(0, 2, 11)}
	wantCourt(t, "a renewal of an older epoch", 8, 1, s, want)
}

// TestWishesThatAreRefused: nothing happens but that they are no longer on their way.
func TestWishesThatAreRefused(t *testing.T) {
	s := inTurn(asked(0), script{send(1), send(2), send(3), wishComes(1)})
	want := api.Court{Lease: leaseOf(1, 1, 8), Clocks: make([]int, 4), Trusts: make([]api.Trust, 4), Wishes: []api.Wish{wish(1, 0, 0), wish(3, 0, 0)}}
	want.Trusts[0] = trust(1, 6)
	wantCourt(t, "a wish for what is held", 8, 4, s, want)
	want.Now, want.Wishes = 7, nil
	wantCourt(t, "wishes for what is held yet", 8, 4, append(s, tick(7), wishComes(0), wishComes(0)), want)
	want.Now, want.Lease, want.Replies = 8, leaseOf(2, 2, 16), []api.Reply{reply(1, 2, 6)}
	wantCourt(t, "wishes for what has just ended", 8, 4, append(s, tick(8), wishComes(0), wishComes(0)), want)
}

func TestAWishThatArrivesTwice(t *testing.T) {
	twice := script{send(0), wishAgain(0), wishComes(0), wishComes(0)}
	want := one(0, leaseOf(1, 1, 8), 0, api.Trust{})
	want.Replies = []api.Reply{reply(0, 1, 6)}
	wantCourt(t, "a wish that arrives twice at once", 8, 1, twice, want)
	later := script{send(0), wishAgain(0), wishComes(0), tick(8), wishComes(0)}
	want.Now, want.Lease, want.Replies = 8, leaseOf(1, 2, 16), append(want.Replies, reply(0, 2, 6))
	wantCourt(t, "a wish that arrives once more, when the lease has ended", 8, 1, later, want)
	keeps := inTurn(asked(0), script{tick(2), send(0), wishAgain(0), wishComes(1), tick(3), wishComes(0)})
	want = one(5, leaseOf(1, 1, 13), 0, trust(1, 6))
	want.Replies = []api.Reply{reply(0, 1, 6), reply(0, 1, 6)}
	wantCourt(t, "a renewal that arrives twice", 8, 1, keeps, want)
}

// TestPlacesOnTheWay: what is taken out leaves the others in their order, and what comes is the last one.
func TestPlacesOnTheWay(t *testing.T) {
	sent := script{send(0), send(1), send(2), send(3)}
	whoAt := func(s script) []int {
		var out []int
		for _, w := range mustPlay(t, 8, 4, inTurn(sent, s)).Wishes {
			out = append(out, w.Who)
		}
		return out
	}
	for _, c := range []struct {
		s    script
		want []int
	}{
		{nil, []int{0, 1, 2, 3}},
		{script{wishIsLost(0)}, []int{1, 2, 3}},
		{script{wishIsLost(1)}, []int{0, 2, 3}},
		{script{wishIsLost(3)}, []int{0, 1, 2}},
		{script{wishComes(2)}, []int{0, 1, 3}},
		{script{wishAgain(0)}, []int{0, 1, 2, 3, 0}},
		{script{wishAgain(2), wishIsLost(2), send(1)}, []int{0, 1, 3, 2, 1}},
		{script{wishIsLost(0), wishIsLost(0), wishIsLost(0), wishIsLost(0)}, nil},
	} {
		if got := whoAt(c.s); !slices.Equal(got, c.want) {
			t.Errorf("behind %v wishes of %v are on their way, want %v", c.s, got, c.want)
		}
	}
}

// fourReplies: to client 0, 1, 2 and 3, of the epochs from 1 on.
func fourReplies() script {
	var out script
	for who := range 4 {
		out = append(out, send(who), wishComes(0), tick(8))
	}
	return out
}

func TestPlacesOfReplies(t *testing.T) {
	all := []api.Reply{reply(0, 1, 6), reply(1, 2, 6), reply(2, 3, 6), reply(3, 4, 6)}
	for n := range 4 {
		for _, d := range []api.Deed{replyComes(n), replyIsLost(n)} {
			c := mustPlay(t, 8, 4, append(fourReplies(), d))
			if want := slices.Delete(slices.Clone(all), n, n+1); !slices.Equal(c.Replies, want) {
				t.Errorf("behind %v replies are on their way: %v, want %v", d, c.Replies, want)
			}
			trusts := make([]api.Trust, 4)
			if d.Kind == 4 {
				trusts[n] = trust(n+1, 6)
			}
			if !slices.Equal(c.Trusts, trusts) {
				t.Errorf("behind %v there is trust %v, want %v", d, c.Trusts, trusts)
			}
		}
	}
}

// TestWhichReplyIsTrusted: the one of the greatest epoch, and of these the one that lasts longest, in whatever order they come.
func TestWhichReplyIsTrusted(t *testing.T) {
	// Epoch 1 until 6, then until 10; epoch 2 until 7, though it was sent earlier; then until 13.
	s := inTurn(script{send(0), step(0, 1), send(0), step(0, 3), wishComes(0), replyComes(0), send(0), forget(0), wishComes(1), tick(8), wishComes(0)})
	s = append(s, step(0, 3), step(1, 1))
	c := mustPlay(t, 8, 2, s)
	if want := []api.Reply{reply(0, 1, 10), reply(0, 2, 7)}; !slices.Equal(c.Replies, want) {
		t.Fatalf("on their way are %v", c.Replies)
	}
	for _, o := range []struct {
		order []int
		want  api.Trust
	}{
		{[]int{0}, trust(1, 10)}, {[]int{1}, trust(2, 7)}, {[]int{0, 0}, trust(2, 7)}, {[]int{1, 0}, trust(2, 7)},
	} {
		var come script
		for _, n := range o.order {
			come = append(come, replyComes(n))
		}
		if got := mustPlay(t, 8, 2, inTurn(s, come)).Trusts[0]; got != o.want {
			t.Errorf("behind the replies %v there is trust %v, want %v", o.order, got, o.want)
		}
	}
	forgot := inTurn(s, script{replyComes(1), forget(0), replyComes(0)})
	if got := mustPlay(t, 8, 2, forgot).Trusts[0]; got != trust(1, 10) {
		t.Errorf("who has forgotten trusts %v", got)
	}
}

// TestRepliesOfOneEpoch: one with a lesser Until, the same, or a greater one.
func TestRepliesOfOneEpoch(t *testing.T) {
	s := inTurn(asked(0), script{send(0), step(0, 2), send(0), step(0, 1), send(0), send(0)}, times(4, script{wishComes(0)}))
	if want := []api.Reply{reply(0, 1, 6), reply(0, 1, 8), reply(0, 1, 9), reply(0, 1, 9)}; !slices.Equal(mustPlay(t, 8, 1, s).Replies, want) {
		t.Fatal("the replies are other ones")
	}
	for _, c := range []struct {
		come script
		want int
	}{
		{nil, 6}, {script{replyComes(0)}, 6}, {script{replyComes(1)}, 8}, {script{replyComes(1), replyComes(0)}, 8},
		{script{replyComes(2)}, 9}, {script{replyComes(2), replyComes(1)}, 9}, {script{replyComes(2), replyComes(2)}, 9},
		{script{replyComes(0), replyComes(0), replyComes(0), replyComes(0)}, 9}, {script{forget(0), replyComes(0)}, 6},
	} {
		if got := mustPlay(t, 8, 1, inTurn(s, c.come)).Trusts[0]; got != trust(1, c.want) {
			t.Errorf("behind %v there is trust %v, want until %d", c.come, got, c.want)
		}
	}
}

// TestSpansInACourt: also such as 4 does not divide.
func TestSpansInACourt(t *testing.T) {
	for span, until := range map[int]int{4: 3, 5: 4, 6: 5, 7: 6, 9: 7, 999999: 750000, 1000000: 750000} {
		s := inTurn(script{tick(11), step(0, 100)}, asked(0))
		wantCourt(t, "a span", span, 1, s, one(11, leaseOf(1, 1, 11+span), 100, trust(1, 100+until)))
	}
}

// TestLateClocks: a lease is granted as late as clocks may be.
func TestLateClocks(t *testing.T) {
	s := inTurn(times(900, script{tick(1000000), step(0, 1000000)}), asked(0))
	want := one(900000000, leaseOf(1, 1, 901000000), 900000000, trust(1, 900750000))
	wantCourt(t, "the latest clocks", 1000000, 1, s, want)
}
