package impl

// Limits of times.
const (
	MaxTime  = 1000000
	MaxSpans = 40
)

// Exchange is four times: sent and heard back by one clock, heard and answered by the other one.
type Exchange struct {
	Sent     int
	Heard    int
	Answered int
	Back     int
}

// Span is times from one to another.
type Span struct {
	Low  int
	High int
}

// ExchangeValid reports whether four times are those of an exchange.
func ExchangeValid(x Exchange) bool { return false }

// TalkTimes returns the exchange with a clock that is ahead.
func TalkTimes(ahead int, there int, think int, back int, at int) (Exchange, bool) {
	return Exchange{}, false
}

// TwiceAhead returns twice how far the other clock seems to be ahead.
func TwiceAhead(x Exchange) int { return 0 }

// WayOf returns how long both ways took, or -1.
func WayOf(x Exchange) int { return 0 }

// SpanOf returns twice how far the other clock can be ahead.
func SpanOf(x Exchange) (Span, bool) { return Span{}, false }

// BestOf returns the exchange that tells most, or -1.
func BestOf(list []Exchange) int { return 0 }

// MeetSpans returns the times that most spans have, and how many.
func MeetSpans(list []Span) (Span, int) { return Span{}, 0 }

// SpanHas reports whether a span has a time.
func SpanHas(s Span, n int) bool { return false }
