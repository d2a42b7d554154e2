package tests

import (
	"bytes"
	"slices"
	"testing"

	"loop.example/wholenet/impl"
)

// notFates are numbers of which none is a fate.
var notFates = append([]int{5, 6}, strangeNumbers...)

// fatesOf returns all fates of at most so many messages, none of them first.
func fatesOf(many int) [][]int {
	all := [][]int{{}}
	last := all
	for range many {
		var next [][]int
		for _, fates := range last {
			for f := range 5 {
				next = append(next, append(slices.Clone(fates), f))
			}
		}
		all = append(all, next...)
		last = next
	}
	return all
}

// mixedFates returns so many fates that have no short period.
func mixedFates(many, seed int) []int { return mixedNumbers(many, 5, seed) }

// badFates are lists of numbers that are no fates, for one of them or for their length.
func badFates() [][]int {
	bad := [][]int{make([]int, 201), make([]int, 1000), slices.Repeat([]int{5}, 201)}
	for _, x := range notFates {
		bad = append(bad, []int{x}, []int{x, 0, 0}, []int{0, x, 0}, []int{0, 0, x})
		last := mixedFates(200, 3)
		last[199] = x
		bad = append(bad, last)
	}
	return bad
}

// fateFrom returns the fate of a message, as the test reckons it.
func fateFrom(fates []int, i int) int {
	if i < len(fates) {
		return fates[i]
	}
	return 0
}

// arrivalsByTime returns which messages arrive, time by time.
func arrivalsByTime(fates []int, n int) []int {
	var out []int
	for time := range 2*n + 4 {
		for i := range n {
			switch fateFrom(fates, i) {
			case 0, 4:
				if time == 2*i {
					out = append(out, i)
				}
			case 2:
				if time == 2*i {
					out = append(out, i, i)
				}
			case 3:
				if time == 2*i+3 {
					out = append(out, i)
				}
			}
		}
	}
	return out
}

// messagesOf returns so many messages, each another one, with the first bit set in
// some of them.
func messagesOf(many int) [][]byte {
	var list [][]byte
	for i := range many {
		list = append(list, []byte{byte(i * 37), byte(i), 255})
	}
	return list
}

// passed returns what arrives of messages, as the test reckons it.
func passed(fates []int, list [][]byte) [][]byte {
	var out [][]byte
	for _, i := range arrivalsByTime(fates, len(list)) {
		b := bytes.Clone(list[i])
		if fateFrom(fates, i) == 4 && len(b) > 0 {
			b[0] += 128 // The highest bit has none above it, so this turns it alone.
		}
		out = append(out, b)
	}
	return out
}

func TestWireConstants(t *testing.T) {
	if got, want := []int{impl.FateFine, impl.FateLost, impl.FateTwice, impl.FateLate, impl.FateBroken, impl.MaxFates, impl.MaxSent}, []int{0, 1, 2, 3, 4, 200, 60}; !slices.Equal(got, want) {
		t.Errorf("the constants are %v, want %v", got, want)
	}
}

func TestFatesValid(t *testing.T) {
	for _, fates := range fatesOf(4) {
		if !impl.FatesValid(fates) {
			t.Errorf("FatesValid(%v) = false", fates)
		}
	}
	for _, many := range []int{199, 200} {
		if !impl.FatesValid(mixedFates(many, 1)) {
			t.Errorf("FatesValid of %d fates = false", many)
		}
	}
	if !impl.FatesValid(nil) {
		t.Error("FatesValid(nil) = false")
	}
	for _, fates := range badFates() {
		if impl.FatesValid(fates) {
			t.Errorf("FatesValid(%v) = true", fates)
		}
	}
}

func TestFateOf(t *testing.T) {
	for _, fates := range [][]int{nil, {}, {4}, {3, 0, 2}, {0, 1, 2, 3, 4}, mixedFates(199, 1), mixedFates(200, 2), slices.Repeat([]int{4}, 200)} {
		for i := range 300 {
			if got, want := impl.FateOf(fates, i), fateFrom(fates, i); got != want {
				t.Errorf("FateOf(%v, %d) = %d, want %d", fates, i, got, want)
			}
		}
		for _, i := range strangeNumbers {
			want := 0
			if i < 0 {
				want = -1
			} else if i < len(fates) {
				want = fates[i]
			}
			if got := impl.FateOf(fates, i); got != want {
				t.Errorf("FateOf(%v, %d) = %d, want %d", fates, i, got, want)
			}
		}
	}
	for _, fates := range badFates() {
		for _, i := range append([]int{0, 1, 2, 3, 199, 200, 201}, strangeNumbers...) {
			if got := impl.FateOf(fates, i); got != -1 {
				t.Errorf("FateOf(%v, %d) = %d", fates, i, got)
			}
		}
	}
}

func TestArrivalsOf(t *testing.T) {
	cases := []struct {
		fates []int
		n     int
		want  []int
	}{
		{nil, 0, nil},
		{nil, 3, []int{0, 1, 2}},
		{[]int{3, 0, 2}, 3, []int{1, 0, 2, 2}},
		{[]int{0, 1, 0}, 3, []int{0, 2}},
		{[]int{1, 1, 1}, 3, nil},
		{[]int{2, 2, 2}, 3, []int{0, 0, 1, 1, 2, 2}},
		{[]int{4, 4, 4}, 3, []int{0, 1, 2}},
		// A late one comes between the next one and the one behind that.
		{[]int{3}, 1, []int{0}},
		{[]int{3}, 2, []int{1, 0}},
		{[]int{3}, 3, []int{1, 0, 2}},
		{[]int{3}, 4, []int{1, 0, 2, 3}},
		{[]int{0, 3, 0, 0}, 4, []int{0, 2, 1, 3}},
		{[]int{3, 2, 0}, 3, []int{1, 1, 0, 2}},
		{[]int{3, 1, 0}, 3, []int{0, 2}},
		// Late ones behind each other stay in their order.
		{[]int{3, 3}, 2, []int{0, 1}},
		{[]int{3, 3}, 3, []int{0, 2, 1}},
		{[]int{3, 3, 0, 0}, 4, []int{0, 2, 1, 3}},
		{[]int{3, 3, 3}, 5, []int{0, 1, 3, 2, 4}},
		{[]int{3, 0, 3, 0, 3, 0}, 6, []int{1, 0, 3, 2, 5, 4}},
		{[]int{3, 0, 0, 3, 0}, 5, []int{1, 0, 2, 4, 3}},
		// Fates end, or go on behind what is sent.
		{[]int{1}, 4, []int{1, 2, 3}},
		{[]int{0, 3}, 4, []int{0, 2, 1, 3}},
		{[]int{2, 3, 4, 2, 2}, 1, []int{0, 0}},
		{[]int{2, 3, 4, 2, 2}, 0, nil},
	}
	for _, c := range cases {
		if got := impl.ArrivalsOf(c.fates, c.n); !slices.Equal(got, c.want) {
			t.Errorf("ArrivalsOf(%v, %d) = %v, want %v", c.fates, c.n, got, c.want)
		}
	}
	for _, fates := range fatesOf(5) {
		for n := range 9 {
			if got, want := impl.ArrivalsOf(fates, n), arrivalsByTime(fates, n); !slices.Equal(got, want) {
				t.Fatalf("ArrivalsOf(%v, %d) = %v, want %v", fates, n, got, want)
			}
		}
	}
}

func TestArrivalsOfMany(t *testing.T) {
	for _, many := range []int{0, 30, 59, 60, 61, 199, 200} {
		for _, fates := range [][]int{mixedFates(many, 1), mixedFates(many, 7), slices.Repeat([]int{2}, many), slices.Repeat([]int{3}, many)} {
			for n := range 61 {
				if got, want := impl.ArrivalsOf(fates, n), arrivalsByTime(fates, n); !slices.Equal(got, want) {
					t.Fatalf("ArrivalsOf(%v, %d) = %v, want %v", fates, n, got, want)
				}
			}
		}
	}
}

// TestTooManySent is for the functions that are told how many messages are sent.
func TestTooManySent(t *testing.T) {
	for _, fates := range [][]int{nil, {3, 0, 2}, {1}, mixedFates(200, 1)} {
		for _, n := range append([]int{61, 62, 100, 127}, strangeNumbers...) {
			if got := impl.ArrivalsOf(fates, n); len(got) != 0 {
				t.Errorf("ArrivalsOf(%v, %d) = %v", fates, n, got)
			}
			if got := impl.LostIn(fates, n); got != -1 {
				t.Errorf("LostIn(%v, %d) = %d", fates, n, got)
			}
		}
	}
}

// TestNoFates gives all functions that are told fates numbers that are none, the
// wrong one at the place of a message or behind all of them.
func TestNoFates(t *testing.T) {
	for _, fates := range badFates() {
		for _, n := range append([]int{0, 1, 2, 3, 59, 60, 61, 200, 201}, strangeNumbers...) {
			if got := impl.ArrivalsOf(fates, n); len(got) != 0 {
				t.Errorf("ArrivalsOf(%v, %d) = %v", fates, n, got)
			}
			if got := impl.LostIn(fates, n); got != -1 {
				t.Errorf("LostIn(%v, %d) = %d", fates, n, got)
			}
			if got := impl.FatesBehind(fates, n); len(got) != 0 {
				t.Errorf("FatesBehind(%v, %d) = %v", fates, n, got)
			}
		}
		for _, n := range []int{0, 1, 2, 3, 60} {
			if got := impl.PassWire(fates, messagesOf(n)); len(got) != 0 {
				t.Errorf("PassWire(%v) of %d messages = %v", fates, n, got)
			}
		}
		if impl.IsClear(fates) {
			t.Errorf("IsClear(%v) = true", fates)
		}
	}
}

func TestPassWire(t *testing.T) {
	a, b, c, none := []byte("a"), []byte("b"), []byte("c"), []byte{}
	cases := []struct {
		fates      []int
		list, want [][]byte
	}{
		{nil, nil, nil},
		{[]int{2, 2}, nil, nil},
		{nil, [][]byte{a, b, c}, [][]byte{a, b, c}},
		{[]int{3, 0, 2}, [][]byte{a, b, c}, [][]byte{b, a, c, c}},
		{[]int{1}, [][]byte{a, b, c}, [][]byte{b, c}},
		{[]int{1, 1, 1}, [][]byte{a, b, c}, nil},
		{[]int{0, 4, 0}, [][]byte{a, b, c}, [][]byte{a, {'b' + 128}, c}},
		{[]int{4}, [][]byte{{128, 128}}, [][]byte{{0, 128}}},
		{[]int{4}, [][]byte{{0, 0, 0}}, [][]byte{{128, 0, 0}}},
		{[]int{4}, [][]byte{{255, 255}}, [][]byte{{127, 255}}},
		// What is empty arrives too; broken, it stays as it is.
		{nil, [][]byte{none, nil}, [][]byte{none, none}},
		{[]int{4}, [][]byte{none}, [][]byte{none}},
		{[]int{4}, [][]byte{nil}, [][]byte{none}},
		{[]int{4, 4, 4}, [][]byte{a, nil, b}, [][]byte{{'a' + 128}, none, {'b' + 128}}},
		{[]int{2, 1, 3}, [][]byte{nil, none, none, a}, [][]byte{none, none, a, none}},
		// Messages that are the same are messages of their own.
		{[]int{1, 3, 4}, [][]byte{a, a, a}, [][]byte{{'a' + 128}, a}},
	}
	for _, c := range cases {
		if got := impl.PassWire(c.fates, c.list); !sameData(got, c.want) {
			t.Errorf("PassWire(%v, %v) = %v, want %v", c.fates, c.list, got, c.want)
		}
	}
	for _, fates := range fatesOf(5) {
		for n := range 8 {
			list := messagesOf(n)
			if got, want := impl.PassWire(fates, list), passed(fates, list); !sameData(got, want) {
				t.Fatalf("PassWire(%v, %v) = %v, want %v", fates, list, got, want)
			}
		}
	}
}

func TestBrokenBytes(t *testing.T) {
	for x := range 256 {
		b := []byte{byte(x), byte(x), 7}
		want := []byte{byte(x + 128), byte(x), 7}
		if got := impl.PassWire([]int{4}, [][]byte{b}); !sameData(got, [][]byte{want}) {
			t.Errorf("PassWire(4) of %v = %v, want %v", b, got, want)
		}
	}
}

func TestPassWireLimits(t *testing.T) {
	for _, n := range []int{59, 60} {
		for _, fates := range [][]int{nil, mixedFates(60, 1), mixedFates(200, 2), slices.Repeat([]int{2}, 60), slices.Repeat([]int{3}, 60)} {
			list := messagesOf(n)
			if got, want := impl.PassWire(fates, list), passed(fates, list); !sameData(got, want) {
				t.Errorf("PassWire(%v) of %d messages = %v, want %v", fates, n, got, want)
			}
		}
	}
	for _, n := range []int{61, 62, 200, 1000} {
		for _, fates := range [][]int{nil, {1}, mixedFates(200, 1)} {
			if got := impl.PassWire(fates, messagesOf(n)); len(got) != 0 {
				t.Errorf("PassWire(%v) of %d messages = %v", fates, n, got)
			}
		}
	}
	for _, many := range []int{599, 600} {
		list := [][]byte{sampleData(many), []byte("a")}
		if got, want := impl.PassWire([]int{2, 4}, list), passed([]int{2, 4}, list); !sameData(got, want) {
			t.Errorf("PassWire of %d bytes gives %d messages", many, len(got))
		}
	}
	// One that is no data is none whatever its fate is.
	for _, many := range []int{601, 1200} {
		for f := range 5 {
			for at := range 3 {
				list, fates := messagesOf(3), []int{0, 0, 0}
				list[at], fates[at] = sampleData(many), f
				if got := impl.PassWire(fates, list); len(got) != 0 {
					t.Errorf("PassWire(%v) with %d bytes at %d gives %d messages", fates, many, at, len(got))
				}
			}
		}
	}
}

func TestLostIn(t *testing.T) {
	cases := append(fatesOf(5), nil, []int{1, 0, 1}, mixedFates(60, 1), mixedFates(200, 2), slices.Repeat([]int{1}, 200))
	for _, fates := range cases {
		want := 0
		for n := range 61 {
			if got := impl.LostIn(fates, n); got != want {
				t.Fatalf("LostIn(%v, %d) = %d, want %d", fates, n, got, want)
			}
			if fateFrom(fates, n) == 1 {
				want++
			}
		}
	}
}

func TestFatesBehind(t *testing.T) {
	for _, fates := range append(fatesOf(4), nil, mixedFates(60, 1), mixedFates(199, 2), mixedFates(200, 3)) {
		for n := range 210 {
			var want []int
			if n < len(fates) {
				want = fates[n:]
			}
			if got := impl.FatesBehind(fates, n); !slices.Equal(got, want) {
				t.Errorf("FatesBehind(%v, %d) = %v, want %v", fates, n, got, want)
			}
		}
		for _, n := range []int{-1 << 63, -2, -1, 1 << 32, 1<<63 - 1} {
			if got := impl.FatesBehind(fates, n); len(got) != 0 {
				t.Errorf("FatesBehind(%v, %d) = %v", fates, n, got)
			}
		}
	}
}

// TestFatesGoOn is for messages that are sent one behind the other: each has the
// fate that it has when all are sent at once.
func TestFatesGoOn(t *testing.T) {
	fates := mixedFates(70, 5)
	left := fates
	for i := range 100 {
		if got, want := impl.FateOf(left, 0), impl.FateOf(fates, i); got != want {
			t.Errorf("the message %d has the fate %d, want %d", i, got, want)
		}
		left = impl.FatesBehind(left, 1)
	}
}

func TestIsClear(t *testing.T) {
	for _, many := range []int{0, 1, 2, 199, 200} {
		if !impl.IsClear(make([]int, many)) {
			t.Errorf("IsClear of %d times 0 = false", many)
		}
		for at := range many {
			for f := 1; f < 5; f++ {
				fates := make([]int, many)
				fates[at] = f
				if impl.IsClear(fates) {
					t.Errorf("IsClear of %d fates with %d at %d = true", many, f, at)
				}
			}
		}
	}
	if !impl.IsClear(nil) {
		t.Error("IsClear(nil) = false")
	}
}

// TestWhatArrivesWasSent is promise 4: each message arrives as often as its fate
// tells, and as it was sent, but for the first bit of a broken one; and a clear
// wire does nothing.
func TestWhatArrivesWasSent(t *testing.T) {
	for seed := range 200 {
		fates, n := mixedFates(seed, seed), seed*7%61
		list := messagesOf(n)
		came := map[string]int{}
		for _, b := range impl.PassWire(fates, list) {
			came[string(b)]++
		}
		all := 0
		for i, b := range list {
			sent, want := bytes.Clone(b), 1
			switch fateFrom(fates, i) {
			case 1:
				want = 0
			case 2:
				want = 2
			case 4:
				sent, _ = impl.FlipBit(sent, 0)
			}
			if came[string(sent)] != want {
				t.Errorf("of the message %d with the fates %v there come %d, want %d", i, fates, came[string(sent)], want)
			}
			all += want
		}
		if many := len(impl.PassWire(fates, list)); many != all {
			t.Errorf("with the fates %v there come %d messages, want %d", fates, many, all)
		}
		if got := impl.PassWire(make([]int, seed), list); !sameData(got, list) {
			t.Errorf("a clear wire makes %v of %v", got, list)
		}
	}
}

func TestWireSharesNoMemory(t *testing.T) {
	whole := []int{3, 4, 2, 2, 0, 1, 3, 4}
	fates, before := whole[:5], slices.Clone(whole)
	for name, call := range map[string]func() []int{
		"FatesBehind 0": func() []int { return impl.FatesBehind(fates, 0) },
		"FatesBehind 2": func() []int { return impl.FatesBehind(fates, 2) },
		"FatesBehind 5": func() []int { return impl.FatesBehind(fates, 5) },
		"FatesBehind 9": func() []int { return impl.FatesBehind(fates, 9) },
		"ArrivalsOf":    func() []int { return impl.ArrivalsOf(fates, 7) },
		"the others": func() []int {
			impl.FatesValid(fates)
			impl.FateOf(fates, 1)
			impl.LostIn(fates, 7)
			impl.IsClear(fates)
			impl.PassWire(fates, messagesOf(7))
			return nil
		},
	} {
		got := call()
		got = got[:cap(got)]
		for i := range got {
			got[i] = -9
		}
		if !slices.Equal(whole, before) {
			t.Errorf("%s changes or shares the fates", name)
			copy(whole, before)
		}
	}
	for f := range 5 {
		checkMemory(t, "PassWire", 6, func(b []byte) []byte {
			list := impl.PassWire([]int{f, f}, [][]byte{b[:2], b[2:6]})
			for i := range list {
				for j := range list[i][:cap(list[i])] {
					list[i][:cap(list[i])][j] ^= 255
				}
			}
			return nil
		})
	}
}

// TestArrivalsAreApart turns one message that arrived: all others stay as they are,
// the second of a message that arrives twice among them.
func TestArrivalsAreApart(t *testing.T) {
	fates, list := []int{2, 3, 0, 4, 2}, messagesOf(5)
	want := passed(fates, list)
	for at := range want {
		got := impl.PassWire(fates, list)
		whole := got[at][:cap(got[at])]
		for j := range whole {
			whole[j] ^= 255
		}
		copy(got[at], want[at])
		if !sameData(got, want) {
			t.Errorf("what arrives shares memory with %d: %v, want %v", at, got, want)
		}
	}
	if !sameData(list, messagesOf(5)) {
		t.Errorf("PassWire changes its messages: %v", list)
	}
	shared := impl.PassWire(nil, [][]byte{list[0], list[0]})
	shared[0][0] ^= 255
	if !bytes.Equal(shared[1], list[0]) {
		t.Error("what arrives of one slice that is sent as two messages shares memory")
	}
}
