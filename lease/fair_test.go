package lease_test

import (
	"testing"

	"tabulary/api"
)

func TestFairOfNothing(t *testing.T) {
	for _, span := range []int{4, 8, 1000000} {
		wantFair(t, "nothing", span, 8, nil, true)
		wantFair(t, "what is no matter of clocks", span, 8, inTurn(asked(7), script{forget(0), send(3), wishAgain(0), wishIsLost(0)}), true)
		wantFair(t, "clients' clocks alone", span, 2, script{step(0, 1000000), step(0, 1000000), step(1, 3)}, true)
	}
}

// TestFairAtTheEdges: the granter's clock goes on by just span, or one less, a client's by just span - span/4, or one less.
func TestFairAtTheEdges(t *testing.T) {
	for span, least := range map[int]int{4: 3, 5: 4, 6: 5, 7: 6, 8: 6, 9: 7, 100: 75, 999999: 750000, 1000000: 750000} {
		wantFair(t, "a span at once", span, 1, script{tick(span)}, false)
		wantFair(t, "one less at once", span, 1, script{tick(span - 1)}, true)
		for _, n := range []int{1, 2, span - 1} {
			wantFair(t, "a span, and just enough", span, 1, script{tick(n), step(0, least), tick(span - n)}, true)
			wantFair(t, "a span, and one less", span, 1, script{tick(n), step(0, least-1), tick(span - n)}, false)
			wantFair(t, "one less, and nothing", span, 1, script{tick(n), step(0, 0), tick(span - n - 1)}, true)
			wantFair(t, "a span, and one less in two", span, 1, script{tick(n), step(0, least-2), tick(0), step(0, 1), tick(span - n)}, false)
			wantFair(t, "a span, and just enough in two", span, 1, script{tick(n), step(0, least-1), tick(0), step(0, 1), tick(span - n)}, true)
		}
	}
}

// TestFairBetweenAnyTwoMoments: what goes on ahead of them or behind them does not count.
func TestFairBetweenAnyTwoMoments(t *testing.T) {
	wantFair(t, "a clock that goes on ahead", 8, 1, script{step(0, 1000), tick(4), tick(4)}, false)
	wantFair(t, "a clock that goes on behind", 8, 1, script{tick(4), tick(4), step(0, 1000)}, false)
	wantFair(t, "a span at once, with all else around it", 8, 1, script{step(0, 9), tick(8), step(0, 9)}, false)
	wantFair(t, "enough in all, but not between two", 8, 1, script{tick(1), step(0, 1000), tick(7), tick(1)}, false)
	wantFair(t, "a lag in the middle", 8, 1, script{tick(4), step(0, 6), tick(4), step(0, 6), tick(4), tick(4), step(0, 6), tick(4)}, false)
	wantFair(t, "a lag at the end", 8, 1, inTurn(times(50, script{tick(4), step(0, 6)}), script{tick(4), step(0, 5), tick(4)}), false)
	wantFair(t, "no lag", 8, 1, times(500, script{tick(4), step(0, 6)}), true)
	wantFair(t, "no lag in small steps", 8, 1, times(900, script{tick(1), step(0, 1)}), true)
	wantFair(t, "a lag in small steps", 8, 1, append(times(900, script{tick(1), step(0, 1)}), tick(1), tick(1), tick(1)), false)
}

// ticks: the granter's clock goes on by 1 again and again, and behind each time the client's by the next one of these.
func ticks(clock ...int) script {
	var out script
	for _, n := range clock {
		out = append(out, tick(1), step(0, n))
	}
	return out
}

// TestFairOfSlowClocks: between two moments that are 8 apart may stand 7 steps alone, of which 6 are enough.
func TestFairOfSlowClocks(t *testing.T) {
	wantFair(t, "six of seven", 8, 1, times(140, ticks(1, 1, 1, 1, 1, 1, 0)), true)
	wantFair(t, "five of six", 8, 1, times(140, ticks(1, 1, 1, 1, 1, 0)), false)
	wantFair(t, "three of four", 8, 1, times(200, ticks(1, 1, 1, 0)), false)
	wantFair(t, "three of four at once", 8, 1, times(200, script{tick(4), step(0, 3)}), false)
	wantFair(t, "far too fast", 8, 1, times(200, ticks(1000)), true)
}

// TestFairOfEachClient: one that is slow is enough.
func TestFairOfEachClient(t *testing.T) {
	for clients := 1; clients <= 8; clients++ {
		for slow := range clients {
			ahead, s := script{tick(7)}, script{tick(7)}
			for who := range clients {
				n := 6
				if who == slow {
					n = 5
				}
				ahead, s = append(ahead, step(who, 6)), append(s, step(who, n))
			}
			wantFair(t, "clients that are all in time", 8, clients, append(ahead, tick(1)), true)
			wantFair(t, "clients of which one is slow", 8, clients, append(s, tick(1)), false)
			wantFair(t, "clients of which one is slow, yet", 8, clients, s, true)
		}
	}
}

// TestFairOfLateClocks: also where they are as late as they may be.
func TestFairOfLateClocks(t *testing.T) {
	ahead := times(899, script{tick(1000000 - 1), step(0, 1000000)})
	wantFair(t, "late clocks", 1000000, 1, ahead, true)
	wantFair(t, "late clocks of which one is slow", 1000000, 1, append(ahead, tick(899), step(0, 749999), tick(1000000-899)), false)
	wantFair(t, "late clocks of which none is slow", 1000000, 1, append(ahead, tick(899), step(0, 750000), tick(1000000-899)), true)
}

// TestFairOfMostDeeds: MaxOps of them.
func TestFairOfMostDeeds(t *testing.T) {
	wantFair(t, "most deeds", 4, 1, times(api.MaxOps/2, script{tick(1), step(0, 1)}), true)
	wantFair(t, "most deeds, of which the last are too much", 4, 1, append(times(api.MaxOps/2-2, script{tick(1), step(0, 1)}), tick(1), tick(1), tick(1), tick(1)), false)
}
