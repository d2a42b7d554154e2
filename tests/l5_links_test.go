package tests

import (
	"bytes"
	"math"
	"slices"
	"testing"

	"loop.example/wholenet/impl"
)

// notWindows are numbers of which none is a window.
var notWindows = append([]int{0, 9, 10, 16}, strangeNumbers...)

// notRounds are numbers of rounds that are not allowed.
var notRounds = []int{math.MinInt, -400, -2, -1, 401, 402, 1 << 32, math.MaxInt}

// packetOf returns the packet of a link, as the test reckons it.
func packetOf(kind, seq int, b []byte) []byte {
	return withCheck(append([]byte{byte(kind*16 + seq)}, b...))
}

// linkData returns so many data, each another one, of which the first one is empty
// and the next ones look like packets.
func linkData(many int) [][]byte {
	list := [][]byte{{}, packetOf(1, 2, []byte("a")), packetOf(2, 3, nil)}
	for i := len(list); i < many; i++ {
		list = append(list, sampleData(i * 3)[i:])
	}
	return list[:many]
}

// rareFates returns so many fates of which about one of five is not fine.
func rareFates(many, seed int) []int {
	fates, rare := mixedFates(many, seed), mixedFates(many, seed+1000)
	for i := range fates {
		if rare[i] != 2 {
			fates[i] = 0
		}
	}
	return fates
}

// runByIndex returns what comes of a link that tells data apart by their indexes,
// and how many have come by that number itself. That a sequence number is as good
// is what the tests hold the program against.
func runByIndex(window int, list [][]byte, there, back []int, rounds int) impl.LinkRun {
	got, known, past, sent := 0, 0, 0, 0
	for past < rounds && known < len(list) {
		many := min(window, len(list)-known)
		var next []int
		for i := range many {
			next = append(next, fateFrom(there, sent+i))
		}
		for _, i := range arrivalsByTime(next, many) {
			if next[i] != 4 && known+i == got {
				got++
			}
		}
		switch fateFrom(back, past) {
		case 0, 2, 3:
			known = got
		}
		sent += many
		past++
	}
	return impl.LinkRun{Got: list[:got], Rounds: past, Sent: sent + past, Done: known == len(list)}
}

// sameRun reports whether two links came to the same.
func sameRun(a, b impl.LinkRun) bool {
	return sameData(a.Got, b.Got) && a.Rounds == b.Rounds && a.Sent == b.Sent && a.Done == b.Done
}

// checkRun holds a link against one that goes by indexes.
func checkRun(t *testing.T, window int, list [][]byte, there, back []int, rounds int) {
	t.Helper()
	got, ok := impl.RunLink(window, list, there, back, rounds)
	if want := runByIndex(window, list, there, back, rounds); !ok || !sameRun(got, want) {
		t.Fatalf("RunLink(%d, %v, %v, %v, %d) = %v, %v, want %v", window, list, there, back, rounds, got, ok, want)
	}
}

func TestLinkConstants(t *testing.T) {
	if got, want := []int{impl.LinkData, impl.LinkBack, impl.MaxWindow, impl.MaxRounds}, []int{1, 2, 8, 400}; !slices.Equal(got, want) {
		t.Errorf("the constants are %v, want %v", got, want)
	}
}

func TestPackLink(t *testing.T) {
	for kind := 1; kind <= 2; kind++ {
		for seq := range 16 {
			for _, many := range []int{0, 1, 2, 100, 596, 597, 598, 599, 600, 601, 1200} {
				b := sampleData(many)
				want := packetOf(kind, seq, b)
				fine := kind == 1 && many <= 597 || many == 0
				if !fine {
					want = nil
				}
				if got, ok := impl.PackLink(kind, seq, b); ok != fine || !bytes.Equal(got, want) {
					t.Errorf("PackLink(%d, %d) of %d bytes = %v, %v, want %v, %v", kind, seq, many, got, ok, want, fine)
				}
			}
		}
	}
	if got, ok := impl.PackLink(2, 5, nil); !ok || got[0] != 37 || len(got) != 3 {
		t.Errorf("PackLink(2, 5, nil) = %v, %v", got, ok)
	}
	if got, ok := impl.PackLink(1, 15, nil); !ok || got[0] != 31 || len(got) != 3 {
		t.Errorf("PackLink(1, 15, nil) = %v, %v", got, ok)
	}
}

func TestPackLinkInvalid(t *testing.T) {
	// Some of these times 16, or as a byte, are what a kind is.
	kinds := append([]int{0, 3, 4, 15, 16, 17, 18, 1<<60 + 1, 1<<60 + 2}, strangeNumbers...)
	seqs := append([]int{16, 17, 31, 32}, strangeNumbers...)
	check := func(kind, seq int) {
		for _, many := range []int{0, 1, 597} {
			if got, ok := impl.PackLink(kind, seq, sampleData(many)); ok || len(got) != 0 {
				t.Errorf("PackLink(%d, %d) of %d bytes = %v, %v", kind, seq, many, got, ok)
			}
		}
	}
	for _, kind := range kinds {
		for seq := range 16 {
			check(kind, seq)
		}
	}
	for _, seq := range seqs {
		for kind := range 4 {
			check(kind, seq)
		}
	}
}

// checkNoPacket looks whether bytes are taken for a packet.
func checkNoPacket(t *testing.T, b []byte) {
	t.Helper()
	if kind, seq, data, ok := impl.UnpackLink(b); kind != 0 || seq != 0 || len(data) != 0 || ok {
		t.Errorf("UnpackLink(%v) = %d, %d, %v, %v", b, kind, seq, data, ok)
	}
}

func TestUnpackLink(t *testing.T) {
	for head := range 256 {
		for _, many := range []int{0, 1, 2, 596, 597} {
			data := sampleData(many)
			b := packetOf(0, head, data)
			if head/16 != 1 && (head/16 != 2 || many > 0) {
				checkNoPacket(t, b)
				continue
			}
			kind, seq, got, ok := impl.UnpackLink(b)
			if kind != head/16 || seq != head%16 || !bytes.Equal(got, data) || !ok {
				t.Errorf("UnpackLink(%v) = %d, %d, %v, %v", b, kind, seq, got, ok)
			}
		}
	}
}

func TestUnpackLinkInvalid(t *testing.T) {
	for _, b := range [][]byte{nil, {}, {16}, {16, 1}, {255, 255}, {0, 0}, {16, 0, 0}, {32, 0, 0}} {
		checkNoPacket(t, b)
	}
	for x := range 65536 {
		b := []byte{16, byte(x >> 8), byte(x)}
		if !bytes.Equal(b, withCheck([]byte{16})) {
			checkNoPacket(t, b)
		}
	}
	// The right check does not help what is too long.
	for _, many := range []int{598, 599, 1000} {
		checkNoPacket(t, packetOf(1, 3, sampleData(many)))
	}
	for _, whole := range [][]byte{packetOf(1, 3, []byte("some data")), packetOf(2, 7, nil)} {
		for i := range 8 * len(whole) {
			b, _ := impl.FlipBit(whole, i)
			checkNoPacket(t, b)
		}
		for many := range whole {
			checkNoPacket(t, whole[:many])
		}
		// With 0 behind the check would be right again, as it always is.
		checkNoPacket(t, append(bytes.Clone(whole), 1))
	}
}

func TestRunLink(t *testing.T) {
	cases := []struct {
		window, many int
		there, back  []int
		rounds       int
		got          int
		past, sent   int
		done         bool
	}{
		{1, 2, nil, nil, 400, 2, 2, 4, true},
		{2, 2, nil, nil, 400, 2, 1, 3, true},
		{8, 2, nil, nil, 400, 2, 1, 3, true},
		{8, 60, nil, nil, 400, 60, 8, 68, true},
		{1, 60, nil, nil, 400, 60, 60, 120, true},
		{7, 60, nil, nil, 400, 60, 9, 69, true},
		// Nothing to send is known to have come from the beginning.
		{1, 0, nil, nil, 0, 0, 0, 0, true},
		{8, 0, []int{1, 1}, []int{1}, 400, 0, 0, 0, true},
		// The rounds end.
		{1, 1, nil, nil, 0, 0, 0, 0, false},
		{1, 2, nil, nil, 1, 1, 1, 2, false},
		{2, 5, nil, nil, 2, 4, 2, 6, false},
		{2, 5, nil, nil, 3, 5, 3, 8, true},
		// What does not arrive is sent again, and all behind it.
		{1, 1, []int{1}, nil, 400, 1, 2, 4, true},
		{1, 1, []int{4}, nil, 400, 1, 2, 4, true},
		{1, 1, []int{2}, nil, 400, 1, 1, 2, true},
		{1, 1, []int{3}, nil, 400, 1, 1, 2, true},
		{3, 3, []int{0, 1, 0}, nil, 400, 3, 2, 7, true},
		{3, 3, []int{0, 4, 0}, nil, 1, 1, 1, 4, false},
		{2, 2, []int{2, 2}, nil, 400, 2, 1, 3, true},
		{2, 3, []int{1, 1, 1, 1}, nil, 400, 3, 4, 11, true},
		// Each packet has the fate behind that of the one ahead, over all rounds.
		{2, 3, []int{0, 0, 1}, nil, 400, 3, 3, 7, true},
		{2, 3, []int{0, 1, 1}, nil, 400, 3, 3, 9, true},
		// An answer is lost or broken: the data have come, but are sent again.
		{1, 1, nil, []int{1}, 1, 1, 1, 2, false},
		{1, 1, nil, []int{1}, 400, 1, 2, 4, true},
		{1, 1, nil, []int{4}, 1, 1, 1, 2, false},
		{1, 1, nil, []int{4}, 400, 1, 2, 4, true},
		{1, 1, nil, []int{2}, 400, 1, 1, 2, true},
		{1, 1, nil, []int{3}, 400, 1, 1, 2, true},
		{8, 8, nil, []int{1, 4, 1}, 400, 8, 4, 36, true},
		{2, 2, []int{1}, []int{0, 1}, 400, 2, 3, 9, true},
		// An answer has the fate of its round, not that of a packet.
		{4, 8, nil, []int{0, 1}, 400, 8, 3, 15, true},
		// A late packet in a window comes behind the next one, which is not taken.
		{3, 3, []int{3}, nil, 1, 1, 1, 4, false},
		{3, 3, []int{3}, nil, 400, 3, 2, 7, true},
		{3, 3, []int{3, 3}, nil, 1, 2, 1, 4, false},
		{3, 3, []int{3, 3}, nil, 400, 3, 2, 6, true},
		{3, 3, []int{0, 0, 3}, nil, 400, 3, 1, 4, true},
		{3, 3, []int{3, 2}, nil, 400, 3, 2, 7, true},
		{3, 3, []int{3, 1}, nil, 400, 3, 2, 7, true},
		// A whole window has come, and its answer has not: sequence numbers come round.
		{8, 17, nil, []int{1}, 400, 17, 4, 29, true},
		{8, 17, nil, []int{0, 1}, 400, 17, 4, 29, true},
		{8, 60, nil, []int{0, 1, 0, 1, 0, 1, 1}, 400, 60, 12, 104, true},
	}
	for _, c := range cases {
		list := linkData(c.many)
		want := impl.LinkRun{Got: list[:c.got], Rounds: c.past, Sent: c.sent, Done: c.done}
		if got, ok := impl.RunLink(c.window, list, c.there, c.back, c.rounds); !ok || !sameRun(got, want) {
			t.Errorf("RunLink(%d, %d data, %v, %v, %d) = %v, %v, want %v", c.window, c.many, c.there, c.back, c.rounds, got, ok, want)
		}
	}
}

// TestRunLinkAllFates gives a link all fates of few packets.
func TestRunLinkAllFates(t *testing.T) {
	for _, c := range [][2]int{{4, 1}, {2, 3}} {
		for _, there := range fatesOf(c[0]) {
			for _, back := range fatesOf(c[1]) {
				for window := 1; window <= 3; window++ {
					for many := 1; many <= 3; many++ {
						checkRun(t, window, linkData(many), there, back, 400)
					}
				}
			}
		}
	}
}

func TestRunLinkMixedFates(t *testing.T) {
	for seed := range 60 {
		list := linkData(seed)
		for window := 1; window <= 8; window++ {
			for _, rounds := range []int{seed, 399, 400} {
				checkRun(t, window, list, rareFates(200, seed), rareFates(200, seed+7), rounds)
				checkRun(t, window, list, mixedFates(seed, seed), mixedFates(200, seed+3), rounds)
				checkRun(t, window, list, nil, slices.Repeat([]int{1, 0}, seed), rounds)
				checkRun(t, window, list, slices.Repeat([]int{3, 0}, seed), nil, rounds)
			}
		}
	}
}

// TestRunLinkSameData sends data that can be told apart by their places alone.
func TestRunLinkSameData(t *testing.T) {
	for seed := range 20 {
		for _, b := range [][]byte{nil, []byte("same")} {
			for window := 1; window <= 8; window++ {
				checkRun(t, window, slices.Repeat([][]byte{b}, 40+seed), mixedFates(90, seed), mixedFates(30, seed+1), 400)
			}
		}
	}
}

func TestRunLinkLimits(t *testing.T) {
	long := [][]byte{sampleData(597), sampleData(596), sampleData(597)}
	checkRun(t, 2, long, []int{4, 0, 3}, []int{2}, 400)
	// Nothing arrives as long as fates last, which is the most that can be.
	lost := slices.Repeat([]int{1}, 200)
	checkRun(t, 1, linkData(60), nil, lost, 400)
	checkRun(t, 1, linkData(60), lost, nil, 400)
	checkRun(t, 8, linkData(60), lost, lost, 400)
	if got := impl.LinkRounds(1, linkData(60), lost, nil); got != 260 {
		t.Errorf("LinkRounds is %d behind 200 that are lost, want 260", got)
	}
}

// checkNoLink looks whether arguments are taken for those of a link.
func checkNoLink(t *testing.T, window int, list [][]byte, there, back []int) {
	t.Helper()
	for _, rounds := range []int{0, 1, 400} {
		got, ok := impl.RunLink(window, list, there, back, rounds)
		if ok || !sameRun(got, impl.LinkRun{}) {
			t.Errorf("RunLink(%d, %d data, %v, %v, %d) = %v, %v", window, len(list), there, back, rounds, got, ok)
		}
	}
	if got := impl.LinkRounds(window, list, there, back); got != -1 {
		t.Errorf("LinkRounds(%d, %d data, %v, %v) = %d", window, len(list), there, back, got)
	}
}

func TestLinkInvalid(t *testing.T) {
	for _, many := range []int{0, 1, 60} {
		list := linkData(many)
		for _, window := range notWindows {
			checkNoLink(t, window, list, nil, nil)
		}
		for _, fates := range badFates() {
			checkNoLink(t, 1, list, fates, nil)
			checkNoLink(t, 8, list, nil, fates)
		}
		for _, rounds := range notRounds {
			if got, ok := impl.RunLink(1, list, nil, nil, rounds); ok || !sameRun(got, impl.LinkRun{}) {
				t.Errorf("RunLink with %d rounds = %v, %v", rounds, got, ok)
			}
		}
	}
	for _, many := range []int{61, 62, 200} {
		checkNoLink(t, 1, linkData(many), nil, nil)
		checkNoLink(t, 8, make([][]byte, many), nil, nil)
	}
	// One that is too long is so even if the rounds end before it is sent.
	for _, many := range []int{598, 599, 600, 601} {
		for at := range 3 {
			list := linkData(3)
			list[at] = sampleData(many)
			checkNoLink(t, 1, list, nil, nil)
		}
	}
}

func TestLinkRounds(t *testing.T) {
	list := linkData(2)
	cases := []struct {
		window, many int
		there, back  []int
		want         int
	}{
		{1, 0, []int{1}, []int{1}, 0},
		{1, 2, nil, nil, 2},
		{2, 2, nil, nil, 1},
		{2, 2, []int{1}, []int{0, 1}, 3},
		{1, 2, []int{1, 4, 1, 4}, []int{1}, 6},
		{1, 1, nil, slices.Repeat([]int{1}, 200), 201},
	}
	for _, c := range cases {
		if got := impl.LinkRounds(c.window, list[:c.many], c.there, c.back); got != c.want {
			t.Errorf("LinkRounds(%d, %d data, %v, %v) = %d, want %d", c.window, c.many, c.there, c.back, got, c.want)
		}
	}
}

// boundByHand returns how many rounds are enough, as the test reckons it.
func boundByHand(window, many, there, back int) int {
	bound := there
	if back > there {
		bound = back
	}
	for ; many > 0; many -= window {
		bound++
	}
	return bound
}

func TestLinkBound(t *testing.T) {
	if got := impl.LinkBound(2, 2, []int{1}, []int{0, 1}); got != 3 {
		t.Errorf("LinkBound(2, 2, [1], [0 1]) = %d, want 3", got)
	}
	lengths := []int{0, 1, 2, 60, 199, 200}
	for window := 1; window <= 8; window++ {
		for many := range 61 {
			for _, a := range lengths {
				for _, b := range lengths {
					there, back := make([]int, a), mixedFates(b, many)
					if got, want := impl.LinkBound(window, many, there, back), boundByHand(window, many, a, b); got != want {
						t.Fatalf("LinkBound(%d, %d) with %d and %d fates = %d, want %d", window, many, a, b, got, want)
					}
				}
			}
		}
	}
}

func TestLinkBoundInvalid(t *testing.T) {
	check := func(window, many int, there, back []int) {
		if got := impl.LinkBound(window, many, there, back); got != -1 {
			t.Errorf("LinkBound(%d, %d, %v, %v) = %d", window, many, there, back, got)
		}
	}
	for _, window := range notWindows {
		for _, many := range []int{0, 1, 60} {
			check(window, many, nil, nil)
		}
	}
	for _, many := range append([]int{61, 62, 100}, strangeNumbers...) {
		check(1, many, nil, nil)
		check(8, many, []int{1}, []int{1})
	}
	for _, fates := range badFates() {
		check(1, 1, fates, nil)
		check(8, 0, nil, fates)
	}
}

// TestWhatComesIsTheBeginning is promise 5: whatever the wires do, and whenever
// the rounds end, the receiver has got the first of the data, each once and in
// order; and with as many rounds as LinkBound tells it has got all of them.
func TestWhatComesIsTheBeginning(t *testing.T) {
	for seed := range 40 {
		list := linkData(20 + seed)
		there, back := mixedFates(5*seed, seed), mixedFates(3*seed, seed+1)
		if seed%2 == 1 {
			there, back = rareFates(5*seed, seed), slices.Repeat([]int{1, 4, 0}, seed)
		}
		window := seed%8 + 1
		need, bound := impl.LinkRounds(window, list, there, back), impl.LinkBound(window, len(list), there, back)
		if need < 0 || need > bound {
			t.Errorf("LinkRounds is %d, and LinkBound %d", need, bound)
		}
		before := 0
		for rounds := range bound + 2 {
			run, ok := impl.RunLink(window, list, there, back, rounds)
			many := len(run.Got)
			if !ok || many > len(list) || !sameData(run.Got, list[:many]) {
				t.Fatalf("what comes of %v in %d rounds is not its beginning: %v", list, rounds, run.Got)
			}
			if many < before {
				t.Errorf("in %d rounds there come %d data, and in less rounds %d", rounds, many, before)
			}
			before = many
			if done := rounds >= need; run.Done != done || run.Done && many < len(list) || run.Rounds != min(rounds, need) {
				t.Errorf("of %d rounds when %d are needed: %v", rounds, need, run)
			}
		}
	}
}

func TestPacketsShareNoMemory(t *testing.T) {
	for many := range 20 {
		checkMemory(t, "PackLink", many, func(b []byte) []byte {
			got, _ := impl.PackLink(impl.LinkData, 3, b)
			return got
		})
	}
	whole := append(packetOf(1, 3, []byte("data")), "and more"...)
	before := bytes.Clone(whole)
	_, _, data, _ := impl.UnpackLink(whole[:7])
	data = data[:cap(data)]
	for i := range data {
		data[i] ^= 255
	}
	if !bytes.Equal(whole, before) {
		t.Error("UnpackLink changes its argument, or shares memory with it")
	}
}

func TestLinksShareNoMemory(t *testing.T) {
	one := []byte("the same memory")
	whole := [][]byte{one[:3], one[:7], one[3:9], one[:3], []byte("behind")}
	list, there, back := whole[:4], []int{2, 3, 4, 1, 0}, []int{1, 4, 2}
	want := [][]byte{[]byte("the"), []byte("the sam"), []byte(" same "), []byte("the")}
	for at := range list {
		run, ok := impl.RunLink(3, list, there, back, 400)
		if !ok || !sameData(run.Got, want) {
			t.Fatalf("RunLink = %v, %v", run, ok)
		}
		data := run.Got[at][:cap(run.Got[at])]
		for i := range data {
			data[i] ^= 255
		}
		copy(run.Got[at], want[at])
		if !sameData(run.Got, want) {
			t.Errorf("what has come shares memory with %d: %v", at, run.Got)
		}
		more := run.Got[:cap(run.Got)]
		for i := range more {
			more[i] = nil
		}
	}
	impl.LinkRounds(3, list, there, back)
	impl.LinkBound(3, 4, there, back)
	if string(one) != "the same memory" || !sameData(list, want) || string(whole[4]) != "behind" {
		t.Errorf("a link changes its list, or shares it: %v", whole)
	}
	if !slices.Equal(there, []int{2, 3, 4, 1, 0}) || !slices.Equal(back, []int{1, 4, 2}) {
		t.Errorf("a link changes its fates: %v, %v", there, back)
	}
}
