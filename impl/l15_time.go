package impl

import (
	"cmp"
	"slices"
)

// Limits of times.
const (
	MaxTime  = 1000000
	MaxSpans = 40
)

// maxNeed is how much time a message, its answer and the thinking in between need at most.
const maxNeed = 1000

// maxEnd is the greatest number that a span has: twice the time from the first time to the last one.
const maxEnd = 4 * MaxTime

// Exchange is four times: sent and heard back by one clock, heard and answered by the other one.
type Exchange struct {
	Sent     int
	Heard    int
	Answered int
	Back     int
}

// Span is times from one to another.
type Span struct {
	Low  int
	High int
}

// spanEvent is a number from which on so many spans more have the numbers; below 0, fewer.
type spanEvent struct {
	at   int
	more int
}

// stretch is numbers from one on, up to the next stretch, and how many spans have each.
type stretch struct {
	from  int
	spans int
}

// ExchangeValid reports whether four times are those of an exchange.
func ExchangeValid(x Exchange) bool {
	// Neither difference is below 0 then, so that Back is not below Sent.
	return isTime(x.Sent) && isTime(x.Heard) && isTime(x.Answered) && isTime(x.Back) &&
		x.Answered >= x.Heard && x.Back-x.Sent >= x.Answered-x.Heard
}

// TalkTimes returns the exchange with a clock that is ahead.
func TalkTimes(ahead int, there int, think int, back int, at int) (Exchange, bool) {
	if !isTime(ahead) || !isNeed(there) || !isNeed(think) || !isNeed(back) {
		return Exchange{}, false
	}
	heard := at + there + ahead
	x := Exchange{Sent: at, Heard: heard, Answered: heard + think, Back: at + there + think + back}
	// Sent is the time at, so that this is no exchange if that is no time.
	if !ExchangeValid(x) {
		return Exchange{}, false
	}
	return x, true
}

// TwiceAhead returns twice how far the other clock seems to be ahead.
func TwiceAhead(x Exchange) int {
	if !ExchangeValid(x) {
		return 0
	}
	return x.Heard - x.Sent + x.Answered - x.Back
}

// WayOf returns how long both ways took, or -1.
func WayOf(x Exchange) int {
	if !ExchangeValid(x) {
		return -1
	}
	return x.Back - x.Sent - (x.Answered - x.Heard)
}

// SpanOf returns twice how far the other clock can be ahead.
func SpanOf(x Exchange) (Span, bool) {
	if !ExchangeValid(x) {
		return Span{}, false
	}
	return Span{Low: TwiceAhead(x) - WayOf(x), High: TwiceAhead(x) + WayOf(x)}, true
}

// BestOf returns the exchange that tells most, or -1.
func BestOf(list []Exchange) int {
	if !areExchanges(list) {
		return -1
	}
	// No exchange ahead of the first of the best ones is equal to it, as that one would be
	// as good.
	return slices.Index(list, slices.MinFunc(list, byWay))
}

// MeetSpans returns the times that most spans have, and how many.
func MeetSpans(list []Span) (Span, int) {
	if !areSpans(list) {
		return Span{}, 0
	}
	found := stretchesOf(list)
	most := slices.MaxFunc(found, bySpans)
	// The last stretch is behind all spans, so that there is one behind that which most have.
	next := found[slices.Index(found, most)+1]
	return Span{Low: most.from, High: next.from - 1}, most.spans
}

// SpanHas reports whether a span has a time.
func SpanHas(s Span, n int) bool { return isSpan(s) && n >= s.Low && n <= s.High }

// stretchesOf returns the stretches of numbers from the first one that a span has,
// ascending, none of which are had by as many spans as the one ahead.
func stretchesOf(list []Span) []stretch {
	var found []stretch
	had := 0
	for _, event := range spanEvents(list) {
		had += event.more
		last := len(found) - 1
		if last >= 0 && found[last].from == event.at {
			found[last].spans = had
		} else {
			found = append(found, stretch{from: event.at, spans: had})
		}
	}
	// Where as many spans begin as end there is no gap.
	return slices.CompactFunc(found, func(a stretch, b stretch) bool { return a.spans == b.spans })
}

// spanEvents returns where spans begin, and where numbers are behind them, ascending.
func spanEvents(list []Span) []spanEvent {
	var events []spanEvent
	for _, s := range list {
		events = append(events, spanEvent{at: s.Low, more: 1}, spanEvent{at: s.High + 1, more: -1})
	}
	slices.SortFunc(events, func(a spanEvent, b spanEvent) int { return cmp.Compare(a.at, b.at) })
	return events
}

// byWay compares exchanges by how long both ways took.
func byWay(a Exchange, b Exchange) int { return cmp.Compare(WayOf(a), WayOf(b)) }

// bySpans compares stretches by how many spans have their numbers.
func bySpans(a stretch, b stretch) int { return cmp.Compare(a.spans, b.spans) }

// isTime reports whether a number is a time.
func isTime(n int) bool { return n >= -MaxTime && n <= MaxTime }

// isNeed reports whether a message, an answer or the thinking can need so much time.
func isNeed(n int) bool { return n >= 0 && n <= maxNeed }

// isSpan reports whether a span is one.
func isSpan(s Span) bool { return s.Low >= -maxEnd && s.Low <= s.High && s.High <= maxEnd }

// isSpanCount reports whether exchanges or spans can be so many.
func isSpanCount(n int) bool { return n >= 1 && n <= MaxSpans }

// areExchanges reports whether there are exchanges, not too many.
func areExchanges(list []Exchange) bool {
	return isSpanCount(len(list)) && !slices.ContainsFunc(list, func(x Exchange) bool { return !ExchangeValid(x) })
}

// areSpans reports whether there are spans, not too many.
func areSpans(list []Span) bool {
	return isSpanCount(len(list)) && !slices.ContainsFunc(list, func(s Span) bool { return !isSpan(s) })
}
