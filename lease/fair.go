package lease

// moment: what all clocks show at a time.
type moment struct {
	now    int
	clocks []int
}

// areFair tells whether no client's clock is too slow between any two of the moments, which stand in their order.
func areFair(moments []moment, span int) bool {
	ahead := 0
	for _, m := range moments {
		for m.now-moments[ahead].now >= span {
			ahead++
		}
		// Clocks never go back: of all moments that are a span ahead of this one, the last one has the least between.
		if ahead > 0 && isAnySlow(moments[ahead-1], m, span) {
			return false
		}
	}
	return true
}

// isAnySlow tells whether a client's clock goes on by less than it may trust, between two moments.
func isAnySlow(from, to moment, span int) bool {
	for who, clock := range to.clocks {
		if clock-from.clocks[who] < trusted(span) {
			return true
		}
	}
	return false
}
