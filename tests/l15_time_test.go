package tests

import (
	"math"
	"slices"
	"testing"

	"loop.example/wholenet/impl"
)

// notTimes are numbers that are no times.
var notTimes = []int{math.MinInt, -1 << 32, -4000000, -2000000, -1000002, -1000001, 1000001, 1000002, 2000000, 4000000, 1 << 32, math.MaxInt}

// notNeeds are numbers of steps that a message, its answer and the thinking never need.
var notNeeds = []int{math.MinInt, -1000000, -1001, -1000, -2, -1, 1001, 1002, 2000, 1000000, 1 << 32, math.MaxInt}

// notEnds are numbers at which no span begins or ends.
var notEnds = []int{math.MinInt, -1 << 32, -8000000, -4000002, -4000001, 4000001, 4000002, 8000000, 1 << 32, math.MaxInt}

// edgeTimes are times, the first and the last one and those near to them among them.
var edgeTimes = []int{-1000000, -999999, -998999, -500000, -1, 0, 1, 1000, 499999, 997000, 997001, 999000, 999999, 1000000}

// edgeNeeds are numbers of steps that a message can need, the least and the most among them.
var edgeNeeds = []int{0, 1, 2, 499, 999, 1000}

// exchangeOf returns an exchange of four times.
func exchangeOf(sent, heard, answered, back int) impl.Exchange {
	return impl.Exchange{Sent: sent, Heard: heard, Answered: answered, Back: back}
}

// spansOf returns spans, of each of which two numbers are the ends.
func spansOf(numbers ...int) []impl.Span {
	var list []impl.Span
	for pair := range slices.Chunk(numbers, 2) {
		list = append(list, impl.Span{Low: pair[0], High: pair[1]})
	}
	return list
}

// talkByHand returns the exchange that comes of a talk, as the test reckons it: event
// by event, by a clock that is right, and one that is ahead of it.
func talkByHand(ahead, there, think, back, at int) impl.Exchange {
	var x impl.Exchange
	now := at
	x.Sent = now
	now += there
	x.Heard = now + ahead
	now += think
	x.Answered = now + ahead
	now += back
	x.Back = now
	return x
}

// timesOf returns the four times of an exchange.
func timesOf(x impl.Exchange) []int { return []int{x.Sent, x.Heard, x.Answered, x.Back} }

// areTimes reports whether the four numbers of an exchange are times.
func areTimes(x impl.Exchange) bool {
	return slices.Min(timesOf(x)) >= -1000000 && slices.Max(timesOf(x)) <= 1000000
}

// talksOf returns what a clock can be ahead if an exchange comes of a talk with it,
// ascending, as the test reckons it: for all that the message can have needed.
func talksOf(x impl.Exchange) []int {
	var list []int
	for there := x.Back - x.Sent; there >= 0; there-- {
		ahead := x.Heard - x.Sent - there
		think := x.Answered - x.Heard
		back := x.Back - x.Sent - there - think
		if think >= 0 && back >= 0 && talkByHand(ahead, there, think, back, x.Sent) == x {
			list = append(list, ahead)
		}
	}
	return list
}

// checkExchange looks at all that an exchange tells, where the clock can be ahead by
// what is given.
func checkExchange(t *testing.T, x impl.Exchange, least, most int) {
	t.Helper()
	if !impl.ExchangeValid(x) {
		t.Fatalf("ExchangeValid(%v) = false", x)
	}
	if got, want := impl.TwiceAhead(x), least+most; got != want {
		t.Fatalf("TwiceAhead(%v) = %d, want %d", x, got, want)
	}
	if got, want := impl.WayOf(x), most-least; got != want {
		t.Fatalf("WayOf(%v) = %d, want %d", x, got, want)
	}
	want := impl.Span{Low: 2 * least, High: 2 * most}
	if got, ok := impl.SpanOf(x); !ok || got != want {
		t.Fatalf("SpanOf(%v) = %v, %v, want %v", x, got, ok, want)
	}
}

// checkNoExchange looks whether something is told of what is no exchange.
func checkNoExchange(t *testing.T, x impl.Exchange) {
	t.Helper()
	if impl.ExchangeValid(x) {
		t.Fatalf("ExchangeValid(%v) = true", x)
	}
	if got := impl.TwiceAhead(x); got != 0 {
		t.Fatalf("TwiceAhead(%v) = %d", x, got)
	}
	if got := impl.WayOf(x); got != -1 {
		t.Fatalf("WayOf(%v) = %d", x, got)
	}
	if got, ok := impl.SpanOf(x); ok || got != (impl.Span{}) {
		t.Fatalf("SpanOf(%v) = %v, %v", x, got, ok)
	}
	if got := impl.BestOf([]impl.Exchange{x}); got != -1 {
		t.Fatalf("BestOf(%v alone) = %d", x, got)
	}
}

// checkClock looks at the exchange of a talk, and at what it tells.
func checkClock(t *testing.T, ahead, there, think, back, at int) {
	t.Helper()
	want := talkByHand(ahead, there, think, back, at)
	got, ok := impl.TalkTimes(ahead, there, think, back, at)
	if !areTimes(want) {
		if ok || got != (impl.Exchange{}) {
			t.Fatalf("TalkTimes(%d, %d, %d, %d, %d) = %v, %v", ahead, there, think, back, at, got, ok)
		}
		checkNoExchange(t, want)
		return
	}
	if !ok || got != want {
		t.Fatalf("TalkTimes(%d, %d, %d, %d, %d) = %v, %v, want %v", ahead, there, think, back, at, got, ok, want)
	}
	checkExchange(t, got, ahead-back, ahead+there)
}

// mixedExchanges returns so many exchanges with one clock, in which messages and
// answers need less than so many steps.
func mixedExchanges(many, ahead, needs, seed int) []impl.Exchange {
	there, think, back := mixedNumbers(many, needs, seed), mixedNumbers(many, needs, seed+31), mixedNumbers(many, needs, seed+77)
	list := make([]impl.Exchange, many)
	for i := range list {
		list[i] = talkByHand(ahead, there[i], think[i], back[i], 500*i-seed)
	}
	return list
}

// wideNumbers returns so many numbers from 0 on, below another one that may be great.
func wideNumbers(many, below, seed int) []int {
	high, low := mixedNumbers(many, 1<<15, seed), mixedNumbers(many, 1<<15, seed+51)
	list := make([]int, many)
	for i := range list {
		list[i] = (high[i]<<15 | low[i]) % below
	}
	return list
}

// mixedSpans returns so many spans that begin below a number, and have at most so many.
func mixedSpans(many, below, most, seed int) []impl.Span {
	lows, more := wideNumbers(many, below, seed), wideNumbers(many, most, seed+77)
	list := make([]impl.Span, many)
	for i := range list {
		list[i] = impl.Span{Low: lows[i] - below/2, High: lows[i] - below/2 + more[i]}
	}
	return list
}

// hadBy returns how many spans have a number, as the test reckons it.
func hadBy(list []impl.Span, n int) int {
	many := 0
	for _, s := range list {
		if s.Low <= n && n <= s.High {
			many++
		}
	}
	return many
}

// meetByNumbers returns the numbers that most spans have, as the test reckons it:
// number by number.
func meetByNumbers(list []impl.Span) (impl.Span, int) {
	var lows, highs []int
	for _, s := range list {
		lows, highs = append(lows, s.Low), append(highs, s.High)
	}
	most, met := 0, impl.Span{}
	for n := slices.Min(lows); n <= slices.Max(highs); n++ {
		had := hadBy(list, n)
		if had > most {
			most, met = had, impl.Span{Low: n, High: n}
		} else if had == most && met.High == n-1 {
			met.High = n
		}
	}
	return met, most
}

// meetByEnds returns the numbers that most spans have, as the test reckons it: they
// begin where a span begins, and end ahead of the first begin or behind the first end
// of a span at which another number of spans has what is next.
func meetByEnds(list []impl.Span) (impl.Span, int) {
	most, low := 0, 0
	for _, s := range list {
		had := hadBy(list, s.Low)
		if had > most || had == most && s.Low < low {
			most, low = had, s.Low
		}
	}
	high := math.MaxInt
	for _, s := range list {
		for _, n := range []int{s.Low - 1, s.High} {
			if n >= low && hadBy(list, n+1) != most {
				high = min(high, n)
			}
		}
	}
	return impl.Span{Low: low, High: high}, most
}

// checkMeet looks at the numbers that most spans have.
func checkMeet(t *testing.T, list []impl.Span, byHand func(list []impl.Span) (impl.Span, int)) {
	t.Helper()
	want, most := byHand(list)
	if got, many := impl.MeetSpans(list); got != want || many != most {
		t.Fatalf("MeetSpans(%v) = %v, %d, want %v, %d", list, got, many, want, most)
	}
}

// checkNoMeet looks whether something is returned for what are no spans.
func checkNoMeet(t *testing.T, list []impl.Span) {
	t.Helper()
	if got, many := impl.MeetSpans(list); got != (impl.Span{}) || many != 0 {
		t.Errorf("MeetSpans(%v) = %v, %d", list, got, many)
	}
}

func TestTimeConstants(t *testing.T) {
	if impl.MaxTime != 1000000 || impl.MaxSpans != 40 {
		t.Errorf("MaxTime and MaxSpans are %d and %d", impl.MaxTime, impl.MaxSpans)
	}
}

func TestExchangeValid(t *testing.T) {
	cases := []struct {
		name string
		x    impl.Exchange
		want bool
	}{
		{"no time between", exchangeOf(0, 0, 0, 0), true},
		{"all at the last time", exchangeOf(1000000, 1000000, 1000000, 1000000), true},
		{"all at the first time", exchangeOf(-1000000, -1000000, -1000000, -1000000), true},
		{"all the time", exchangeOf(-1000000, -1000000, 1000000, 1000000), true},
		{"a clock that is far ahead", exchangeOf(-1000000, 1000000, 1000000, -1000000), true},
		{"a clock that is far behind", exchangeOf(1000000, -1000000, -1000000, 1000000), true},
		{"a clock that is a little behind", exchangeOf(100, 98, 99, 105), true},
		{"no thinking", exchangeOf(0, 5, 5, 9), true},
		{"thinking alone", exchangeOf(3, 8, 12, 7), true},
		{"more thinking than there was time", exchangeOf(3, 8, 13, 7), false},
		{"back ahead of sent", exchangeOf(1, 5, 5, 0), false},
		{"answered ahead of heard", exchangeOf(0, 5, 4, 9), false},
		{"both the wrong way round", exchangeOf(5, 9, 4, 0), false},
		{"all the wrong way round, with time to think", exchangeOf(1000000, 1000000, -1000000, -1000000), false},
		{"behind all times", exchangeOf(0, 1000001, 1000001, 9), false},
		{"ahead of all times", exchangeOf(-1000001, 0, 0, 9), false},
	}
	for _, c := range cases {
		if got := impl.ExchangeValid(c.x); got != c.want {
			t.Errorf("%s: ExchangeValid(%v) = %v, want %v", c.name, c.x, got, c.want)
		}
	}
}

// TestAllSmallExchanges looks at all exchanges of few times: those are some that come
// of a talk, and of all talks of which one comes, it tells how far the clock is ahead.
func TestAllSmallExchanges(t *testing.T) {
	for code := range 8 * 8 * 8 * 8 {
		x := exchangeOf(code%8-4, code/8%8-4, code/64%8-4, code/512-4)
		if ahead := talksOf(x); len(ahead) > 0 {
			checkExchange(t, x, ahead[0], ahead[len(ahead)-1])
		} else {
			checkNoExchange(t, x)
		}
	}
}

// TestExchangesOfAllTimes looks at exchanges with the first times and the last ones.
func TestExchangesOfAllTimes(t *testing.T) {
	for _, sent := range edgeTimes {
		for _, heard := range edgeTimes {
			for _, answered := range edgeTimes {
				for _, back := range edgeTimes {
					x := exchangeOf(sent, heard, answered, back)
					if sent <= back && heard <= answered && heard-sent >= answered-back {
						checkExchange(t, x, answered-back, heard-sent)
					} else {
						checkNoExchange(t, x)
					}
				}
			}
		}
	}
}

func TestExchangesInvalid(t *testing.T) {
	good := []impl.Exchange{exchangeOf(0, 0, 0, 0), exchangeOf(-1000000, 3, 9, 1000000), exchangeOf(1000000, 1000000, 1000000, 1000000)}
	for _, time := range notTimes {
		for _, x := range good {
			checkNoExchange(t, exchangeOf(time, x.Heard, x.Answered, x.Back))
			checkNoExchange(t, exchangeOf(x.Sent, time, x.Answered, x.Back))
			checkNoExchange(t, exchangeOf(x.Sent, x.Heard, time, x.Back))
			checkNoExchange(t, exchangeOf(x.Sent, x.Heard, x.Answered, time))
			checkNoExchange(t, exchangeOf(time, x.Heard, x.Answered, time))
			checkNoExchange(t, exchangeOf(x.Sent, time, time, x.Back))
		}
		checkNoExchange(t, exchangeOf(time, time, time, time))
		// In 64 bits the first difference is not below the second one.
		checkNoExchange(t, exchangeOf(math.MinInt, time, math.MaxInt, math.MaxInt))
		checkNoExchange(t, exchangeOf(time, math.MinInt, math.MaxInt, time))
	}
}

func TestTalkTimes(t *testing.T) {
	cases := []struct {
		name                          string
		ahead, there, think, back, at int
		want                          impl.Exchange
		ok                            bool
	}{
		{"the given test's", 5, 3, 1, 3, 100, exchangeOf(100, 108, 109, 107), true},
		{"nothing at all", 0, 0, 0, 0, 0, exchangeOf(0, 0, 0, 0), true},
		{"a clock that is behind", -5, 3, 1, 3, 100, exchangeOf(100, 98, 99, 107), true},
		{"a clock that is far behind", -1000000, 1, 2, 3, 7, exchangeOf(7, -999992, -999990, 13), true},
		{"a time below 0", 5, 3, 1, 3, -100, exchangeOf(-100, -92, -91, -93), true},
		{"as slow as can be", 7, 1000, 1000, 1000, 0, exchangeOf(0, 1007, 2007, 3000), true},
		{"ahead as much as can be", 1000000, 0, 0, 0, 0, exchangeOf(0, 1000000, 1000000, 0), true},
		{"heard behind all times", 1000000, 1, 0, 0, 0, impl.Exchange{}, false},
		{"answered behind all times", 999999, 1, 1, 0, 0, impl.Exchange{}, false},
		{"answered just in time", 999998, 1, 1, 0, 0, exchangeOf(0, 999999, 1000000, 2), true},
		{"back behind all times", -9, 1, 1, 1, 999998, impl.Exchange{}, false},
		{"back just in time", -9, 1, 1, 1, 999997, exchangeOf(999997, 999989, 999990, 1000000), true},
		{"heard ahead of all times", -1000000, 9, 0, 0, -10, impl.Exchange{}, false},
		{"heard just at the first time", -1000000, 10, 5, 0, -10, exchangeOf(-10, -1000000, -999995, 5), true},
		{"answered in time, but not heard", -1000000, 9, 5, 0, -10, impl.Exchange{}, false},
		{"from the first time to the last one", 1000000, 0, 0, 0, -1000000, exchangeOf(-1000000, 0, 0, -1000000), true},
		{"at the last time with a clock behind", -1000000, 0, 0, 0, 1000000, exchangeOf(1000000, 0, 0, 1000000), true},
		{"less than nothing there", 0, -1, 1, 1, 0, impl.Exchange{}, false},
		{"less than nothing back", 0, 1, 1, -1, 0, impl.Exchange{}, false},
		{"thinking backwards", 0, 1, -1, 1, 0, impl.Exchange{}, false},
	}
	for _, c := range cases {
		got, ok := impl.TalkTimes(c.ahead, c.there, c.think, c.back, c.at)
		if got != c.want || ok != c.ok {
			t.Errorf("%s: TalkTimes(%d, %d, %d, %d, %d) = %v, %v, want %v", c.name, c.ahead, c.there, c.think, c.back, c.at, got, ok, c.want)
		}
	}
}

// TestTalksOfAllKinds looks at small talks, and at all of those with limits.
func TestTalksOfAllKinds(t *testing.T) {
	for code := range 4 * 4 * 4 {
		there, think, back := code%4, code/4%4, code/16
		for ahead := -5; ahead <= 5; ahead++ {
			for at := -5; at <= 5; at++ {
				checkClock(t, ahead, there, think, back, at)
			}
		}
	}
	for _, there := range edgeNeeds {
		for _, think := range edgeNeeds {
			for _, back := range edgeNeeds {
				for _, ahead := range edgeTimes {
					for _, at := range edgeTimes {
						checkClock(t, ahead, there, think, back, at)
					}
				}
			}
		}
	}
}

// TestTalksNearTheLimits looks at each talk the last of whose times is near to one end
// of all times.
func TestTalksNearTheLimits(t *testing.T) {
	for near := -3; near <= 3; near++ {
		for _, needs := range listsOf([]int{0, 1, 1000}, 3) {
			if len(needs) != 3 {
				continue
			}
			there, think, back := needs[0], needs[1], needs[2]
			for _, ahead := range []int{-2000, -1, 0, 1, 2000} {
				checkClock(t, ahead, there, think, back, 1000000-there-think-back+near)
				checkClock(t, ahead, there, think, back, 1000000-there-think-ahead+near)
				checkClock(t, ahead, there, think, back, 1000000-there-ahead+near)
				if at := -1000000 - there - ahead + near; at >= -1000000 {
					checkClock(t, ahead, there, think, back, at)
				}
			}
		}
	}
}

func TestTalksInvalid(t *testing.T) {
	checkNone := func(ahead, there, think, back, at int) {
		t.Helper()
		if got, ok := impl.TalkTimes(ahead, there, think, back, at); ok || got != (impl.Exchange{}) {
			t.Errorf("TalkTimes(%d, %d, %d, %d, %d) = %v, %v", ahead, there, think, back, at, got, ok)
		}
	}
	for _, other := range []int{0, 1, 1000} {
		for _, n := range notNeeds {
			checkNone(0, n, other, other, 0)
			checkNone(0, other, n, other, 0)
			checkNone(0, other, other, n, 0)
			checkNone(-n, n, other, other, 0)
			checkNone(0, n, -n, other, 0)
			checkNone(0, n, n, n, 0)
		}
		for _, n := range notTimes {
			checkNone(n, other, other, other, 0)
			checkNone(0, other, other, other, n)
			// What is heard and answered is at times.
			checkNone(n, other, other, other, -n)
			checkNone(-n, other, other, other, n)
			checkNone(n, other, other, other, 1000000)
			checkNone(n, other, other, other, -1000000)
		}
	}
}

func TestBestOf(t *testing.T) {
	one, two, three := exchangeOf(0, 9, 9, 1), exchangeOf(0, 0, 5, 7), exchangeOf(-9, 2, 2, -6)
	cases := []struct {
		name string
		list []impl.Exchange
		want int
	}{
		{"no exchanges", nil, -1},
		{"no exchanges in memory", []impl.Exchange{}, -1},
		{"one", []impl.Exchange{three}, 0},
		{"the best one first", []impl.Exchange{one, two, three}, 0},
		{"the best one last", []impl.Exchange{three, two, one}, 2},
		{"the best one between", []impl.Exchange{two, one, three}, 1},
		{"the first of two that are the same", []impl.Exchange{three, one, one}, 1},
		{"the first of two that are as good", []impl.Exchange{three, exchangeOf(4, 2, 2, 5), one}, 1},
		{"the other order of these", []impl.Exchange{three, one, exchangeOf(4, 2, 2, 5)}, 1},
		{"thinking does not count", []impl.Exchange{two, exchangeOf(0, 0, 999, 1000)}, 1},
		{"none ahead of a good one", []impl.Exchange{exchangeOf(0, 0, 0, -1), one}, -1},
		{"none behind a good one", []impl.Exchange{one, exchangeOf(0, 0, 0, -1)}, -1},
		{"as many as may be", slices.Repeat([]impl.Exchange{two}, 40), 0},
		{"one too many", slices.Repeat([]impl.Exchange{two}, 41), -1},
	}
	for _, c := range cases {
		if got := impl.BestOf(c.list); got != c.want {
			t.Errorf("%s: BestOf(%v) = %d, want %d", c.name, c.list, got, c.want)
		}
	}
}

// TestBestOfAllOrders looks at all lists of up to five exchanges of few ways, and at
// long ones.
func TestBestOfAllOrders(t *testing.T) {
	check := func(ways []int) {
		t.Helper()
		var list []impl.Exchange
		for i, way := range ways {
			list = append(list, talkByHand(7*i-3, way/2, i%3, way-way/2, 9-i))
		}
		want := -1
		if len(ways) > 0 {
			want = slices.Index(ways, slices.Min(ways))
		}
		if got := impl.BestOf(list); got != want {
			t.Fatalf("BestOf of exchanges with the ways %v = %d, want %d", ways, got, want)
		}
	}
	for _, ways := range listsOf([]int{0, 1, 2, 2000}, 5) {
		check(ways)
	}
	for many := 1; many <= 40; many++ {
		for seed := range 20 {
			check(mixedNumbers(many, 1+seed*100, seed))
		}
		for place := range many {
			ways := slices.Repeat([]int{3}, many)
			ways[place] = 2
			check(ways)
		}
	}
}

func TestBestOfInvalid(t *testing.T) {
	for _, many := range []int{41, 42, 80, 1000} {
		if got := impl.BestOf(mixedExchanges(many, 5, 9, many)); got != -1 {
			t.Errorf("BestOf of %d exchanges = %d", many, got)
		}
	}
	bad := []impl.Exchange{exchangeOf(1, 0, 0, 0), exchangeOf(0, 1, 0, 9), exchangeOf(0, 0, 2, 1), exchangeOf(1000001, 0, 0, 1000001)}
	for _, time := range notTimes {
		bad = append(bad, exchangeOf(0, time, time, 0))
	}
	for _, x := range bad {
		for many := 1; many <= 40; many++ {
			for place := range many {
				list := mixedExchanges(many, 5, 9, many)
				list[place] = x
				if got := impl.BestOf(list); got != -1 {
					t.Errorf("BestOf(%v) = %d", list, got)
				}
			}
		}
	}
}

func TestSpanHas(t *testing.T) {
	cases := []struct {
		name string
		s    impl.Span
		n    int
		want bool
	}{
		{"in between", spansOf(3, 9)[0], 5, true},
		{"the first number", spansOf(3, 9)[0], 3, true},
		{"the last number", spansOf(3, 9)[0], 9, true},
		{"below", spansOf(3, 9)[0], 2, false},
		{"above", spansOf(3, 9)[0], 10, false},
		{"one number", spansOf(-4, -4)[0], -4, true},
		{"not the one number", spansOf(-4, -4)[0], 4, false},
		{"the zero value", impl.Span{}, 0, true},
		{"the first number of all", spansOf(-4000000, 4000000)[0], -4000000, true},
		{"the last number of all", spansOf(-4000000, 4000000)[0], 4000000, true},
		{"ahead of all numbers", spansOf(-4000000, 4000000)[0], -4000001, false},
		{"behind all numbers", spansOf(-4000000, 4000000)[0], 4000001, false},
		{"the least number of all", spansOf(-4000000, 4000000)[0], math.MinInt, false},
		{"the greatest number of all", spansOf(-4000000, 4000000)[0], math.MaxInt, false},
		{"a span that begins too low", spansOf(-4000001, 9)[0], 5, false},
		{"a span that ends too high", spansOf(3, 4000001)[0], 5, false},
		{"a span the wrong way round", spansOf(9, 3)[0], 5, false},
		{"a span with nothing", spansOf(1, 0)[0], 0, false},
		{"everything", spansOf(math.MinInt, math.MaxInt)[0], 0, false},
	}
	for _, c := range cases {
		if got := impl.SpanHas(c.s, c.n); got != c.want {
			t.Errorf("%s: SpanHas(%v, %d) = %v", c.name, c.s, c.n, got)
		}
	}
	for low := -5; low <= 5; low++ {
		for high := -5; high <= 5; high++ {
			for n := -7; n <= 7; n++ {
				s := impl.Span{Low: low, High: high}
				if got, want := impl.SpanHas(s, n), slices.Contains(upTo(low, high+1), n); got != want {
					t.Errorf("SpanHas(%v, %d) = %v, want %v", s, n, got, want)
				}
			}
		}
	}
	for _, end := range notEnds {
		for _, n := range []int{-4000000, -1, 0, 1, 4000000, end} {
			for _, s := range spansOf(end, 0, 0, end, end, 4000000, -4000000, end, end, end) {
				if impl.SpanHas(s, n) {
					t.Errorf("SpanHas(%v, %d) = true", s, n)
				}
			}
		}
	}
}

func TestMeetSpans(t *testing.T) {
	cases := []struct {
		name string
		list []impl.Span
		want impl.Span
		most int
	}{
		{"the document's example", spansOf(0, 5, 3, 9, 20, 21), impl.Span{Low: 3, High: 5}, 2},
		{"no spans", nil, impl.Span{}, 0},
		{"no spans in memory", []impl.Span{}, impl.Span{}, 0},
		{"one span", spansOf(3, 9), impl.Span{Low: 3, High: 9}, 1},
		{"one number", spansOf(-4, -4), impl.Span{Low: -4, High: -4}, 1},
		{"the same twice", spansOf(3, 9, 3, 9), impl.Span{Low: 3, High: 9}, 2},
		{"spans that touch", spansOf(0, 5, 5, 9), impl.Span{Low: 5, High: 5}, 2},
		{"spans that touch, the higher one first", spansOf(5, 9, 0, 5), impl.Span{Low: 5, High: 5}, 2},
		{"beside each other without a gap", spansOf(0, 5, 6, 9), impl.Span{Low: 0, High: 9}, 1},
		{"without a gap, the higher one first", spansOf(6, 9, 0, 5), impl.Span{Low: 0, High: 9}, 1},
		{"beside each other with a gap", spansOf(0, 5, 7, 9), impl.Span{Low: 0, High: 5}, 1},
		{"with a gap, the higher one first", spansOf(7, 9, 0, 5), impl.Span{Low: 0, High: 5}, 1},
		{"three in a row without a gap", spansOf(4, 5, 0, 3, 6, 6), impl.Span{Low: 0, High: 6}, 1},
		{"one ends and one begins within a great one", spansOf(-9, 20, 0, 5, 6, 9), impl.Span{Low: 0, High: 9}, 2},
		{"two end and two begin", spansOf(0, 5, 2, 5, 6, 9, 6, 7), impl.Span{Low: 2, High: 7}, 2},
		{"the numbers of two spans, in two places", spansOf(0, 5, 3, 9, 8, 12), impl.Span{Low: 3, High: 5}, 2},
		{"fewer first", spansOf(0, 1, 10, 19, 15, 29, 18, 40), impl.Span{Low: 18, High: 19}, 3},
		{"one in the other", spansOf(0, 9, 3, 5), impl.Span{Low: 3, High: 5}, 2},
		{"from the first number of all to the last one", spansOf(-4000000, 4000000), impl.Span{Low: -4000000, High: 4000000}, 1},
		{"all numbers by two", spansOf(-4000000, -1, 0, 4000000), impl.Span{Low: -4000000, High: 4000000}, 1},
		{"the last number", spansOf(-4000000, 4000000, 4000000, 4000000), impl.Span{Low: 4000000, High: 4000000}, 2},
		{"the first number", spansOf(-4000000, 4000000, -4000000, -4000000), impl.Span{Low: -4000000, High: -4000000}, 2},
		{"as many as may be", slices.Repeat(spansOf(1, 2), 40), impl.Span{Low: 1, High: 2}, 40},
		{"one too many", slices.Repeat(spansOf(1, 2), 41), impl.Span{}, 0},
		{"one that is none", spansOf(0, 5, 9, 8), impl.Span{}, 0},
	}
	for _, c := range cases {
		if got, most := impl.MeetSpans(c.list); got != c.want || most != c.most {
			t.Errorf("%s: MeetSpans(%v) = %v, %d, want %v, %d", c.name, c.list, got, most, c.want, c.most)
		}
	}
}

// TestAllSmallSpans looks at all lists of up to four spans of few numbers, and of up to
// six of fewer.
func TestAllSmallSpans(t *testing.T) {
	for _, small := range []struct{ numbers, many int }{{6, 4}, {3, 6}} {
		var spans []impl.Span
		for low := range small.numbers {
			for high := low; high < small.numbers; high++ {
				spans = append(spans, impl.Span{Low: low, High: high})
			}
		}
		for _, places := range listsOf(upTo(0, len(spans)), small.many) {
			if len(places) == 0 {
				continue
			}
			var list []impl.Span
			for _, place := range places {
				list = append(list, spans[place])
			}
			checkMeet(t, list, meetByNumbers)
			checkMeet(t, list, meetByEnds)
		}
	}
}

// TestMixedSpans looks at mixed spans, near to each other and up to the limits.
func TestMixedSpans(t *testing.T) {
	for many := 1; many <= 40; many++ {
		for seed := range 50 {
			checkMeet(t, mixedSpans(many, 1+seed*2, 1+seed%11, seed+many), meetByNumbers)
			checkMeet(t, mixedSpans(many, 1+seed*2, 1+seed%40, seed+many), meetByEnds)
			checkMeet(t, mixedSpans(many, 6000000, 1000000, seed+many), meetByEnds)
		}
		wide := mixedSpans(many, 8000000, 1, many)
		for i := range wide {
			if i%3 == 0 {
				wide[i].Low = -4000000
			} else {
				wide[i].High = 4000000
			}
		}
		checkMeet(t, wide, meetByEnds)
	}
}

// TestSpansInARow looks at spans each of which begins just behind another one, from
// each of them on and both ways round, and with one more that has a part of them.
func TestSpansInARow(t *testing.T) {
	for many := 1; many <= 39; many++ {
		for first := range many {
			var list []impl.Span
			for i := range many {
				place := (first + i) % many
				list = append(list, impl.Span{Low: 7 * place, High: 7*place + 6})
			}
			for range 2 {
				checkMeet(t, list, meetByNumbers)
				checkMeet(t, append(list, impl.Span{Low: 3, High: 7*many - 3}), meetByNumbers)
				slices.Reverse(list)
			}
		}
	}
}

func TestSpansInvalid(t *testing.T) {
	for _, many := range []int{41, 42, 80, 1000} {
		checkNoMeet(t, mixedSpans(many, 99, 9, many))
	}
	bad := spansOf(1, 0, 9, -9, 4000000, -4000000, 0, 4000001, -4000001, 0, math.MaxInt, math.MinInt)
	for _, end := range notEnds {
		bad = append(bad, spansOf(end, 0, 0, end, end, end)...)
	}
	for _, s := range bad {
		for _, many := range []int{1, 2, 3, 39, 40} {
			for place := range many {
				list := mixedSpans(many, 99, 9, many)
				list[place] = s
				checkNoMeet(t, list)
			}
		}
	}
}

// checkAhead looks whether a clock is ahead by what the spans of exchanges with it
// have, each alone and all together.
func checkAhead(t *testing.T, ahead int, list []impl.Exchange) {
	t.Helper()
	var spans []impl.Span
	for _, x := range list {
		s, ok := impl.SpanOf(x)
		if !ok || !impl.SpanHas(s, 2*ahead) {
			t.Fatalf("SpanOf(%v) = %v, %v: the clock is ahead by %d", x, s, ok, ahead)
		}
		if twice, way := impl.TwiceAhead(x), impl.WayOf(x); twice < 2*ahead-way || twice > 2*ahead+way {
			t.Fatalf("TwiceAhead(%v) = %d, and WayOf is %d: the clock is ahead by %d", x, twice, way, ahead)
		}
		spans = append(spans, s)
	}
	met, many := impl.MeetSpans(spans)
	if many != len(list) || !impl.SpanHas(met, 2*ahead) {
		t.Fatalf("MeetSpans(%v) = %v, %d: the clock is ahead by %d", spans, met, many, ahead)
	}
	best := spans[impl.BestOf(list)]
	for _, s := range spans {
		if s.High-s.Low < best.High-best.Low {
			t.Fatalf("BestOf(%v) has the span %v, but there is %v", list, best, s)
		}
	}
}

// TestClockIsInItsSpan is promise 15: the other clock is ahead by what its span has.
func TestClockIsInItsSpan(t *testing.T) {
	for ahead := -30; ahead <= 30; ahead++ {
		for code := range 5 * 5 * 5 {
			checkAhead(t, ahead, []impl.Exchange{talkByHand(ahead, code%5, code/5%5, code/25, 3*code-60)})
		}
		for many := 1; many <= 40; many++ {
			checkAhead(t, ahead, mixedExchanges(many, ahead, 1+many*25, 30+many-ahead))
			checkAhead(t, ahead*32000, mixedExchanges(many, ahead*32000, 1+many, 30+many+ahead))
		}
	}
	for _, ahead := range edgeTimes {
		for _, at := range edgeTimes {
			for _, there := range edgeNeeds {
				for _, back := range edgeNeeds {
					if x, ok := impl.TalkTimes(ahead, there, 9, back, at); ok {
						checkAhead(t, ahead, []impl.Exchange{x})
					}
				}
			}
		}
	}
}

// TestSpansAreNoGreater looks whether for each number of a span, twice as much as a
// clock can be ahead, there is a talk with such a clock of which the exchange comes.
func TestSpansAreNoGreater(t *testing.T) {
	for code := range 6 * 6 * 6 {
		for ahead := -9; ahead <= 9; ahead++ {
			x, ok := impl.TalkTimes(ahead, code%6, code/6%6, code/36, 40)
			if !ok {
				t.Fatalf("TalkTimes(%d, %d, %d, %d, 40) = %v, false", ahead, code%6, code/6%6, code/36, x)
			}
			s, _ := impl.SpanOf(x)
			var can []int
			for other := -40; other <= 40; other++ {
				if impl.SpanHas(s, 2*other) {
					can = append(can, other)
				}
			}
			if want := talksOf(x); !slices.Equal(can, want) {
				t.Fatalf("SpanOf(%v) = %v, but the clock can be ahead by %v", x, s, want)
			}
		}
	}
}

// TestMostClocksAreRight looks whether the numbers that most spans have tell how far
// clocks are ahead, if more of them are ahead by that than by anything else.
func TestMostClocksAreRight(t *testing.T) {
	for ahead := -20; ahead <= 20; ahead++ {
		for right := 2; right <= 30; right++ {
			list := mixedExchanges(right, ahead, 40, right)
			for wrong := range min(10, right-1) {
				list = slices.Insert(list, 2*wrong%len(list), mixedExchanges(1, ahead+100*(wrong+1), 20, wrong)...)
			}
			var spans []impl.Span
			for _, x := range list {
				s, _ := impl.SpanOf(x)
				spans = append(spans, s)
			}
			if met, many := impl.MeetSpans(spans); many != right || !impl.SpanHas(met, 2*ahead) {
				t.Fatalf("MeetSpans(%v) = %v, %d: %d clocks are ahead by %d", spans, met, many, right, ahead)
			}
		}
	}
}

// TestTimesKeepNothing looks whether a call changes its argument, or what comes of the
// next one.
func TestTimesKeepNothing(t *testing.T) {
	for many := 1; many <= 40; many++ {
		// lists, and what lies behind them.
		talks, spans := mixedExchanges(80, 5, 30, many), mixedSpans(80, 90, 30, many)
		talksBefore, spansBefore := slices.Clone(talks), slices.Clone(spans)
		best := impl.BestOf(talks[:many])
		met, most := impl.MeetSpans(spans[:many])
		impl.BestOf(talks[many:])
		impl.MeetSpans(spans[many:])
		if again := impl.BestOf(talks[:many]); again != best {
			t.Errorf("BestOf returns %d, and then %d", best, again)
		}
		if again, count := impl.MeetSpans(spans[:many]); again != met || count != most {
			t.Errorf("MeetSpans returns %v, %d, and then %v, %d", met, most, again, count)
		}
		if !slices.Equal(talks, talksBefore) || !slices.Equal(spans, spansBefore) {
			t.Errorf("a function of times changes its argument, or what lies behind it: %v, %v", talks, spans)
		}
	}
}
