package tests

import (
	"math"
	"slices"
	"testing"

	"loop.example/wholenet/impl"
)

// notRooms are numbers of frames for which no receiver has room.
var notRooms = append([]int{0, 41, 42, 80}, strangeNumbers...)

// notDelays are numbers of slots that nothing takes to come.
var notDelays = append([]int{0, 13, 14, 24, 40}, strangeNumbers...)

// notFrameCounts are numbers of frames that can't be sent by credits.
var notFrameCounts = []int{math.MinInt, -501, -500, -2, -1, 501, 502, 1000, 1 << 32, math.MaxInt}

// notDriveSlots are numbers of slots that are not allowed.
var notDriveSlots = []int{math.MinInt, -3001, -3000, -2, -1, 3001, 3002, 6000, 1 << 32, math.MaxInt}

// rarely returns numbers of which one alone tells that a slot is open.
func rarely(many, open int) []int {
	drain := make([]int, many)
	drain[open] = 1
	return drain
}

// goodDrains are numbers that tell which slots are open: all lists of at most five,
// and some longer ones.
func goodDrains() [][]int {
	drains := slices.DeleteFunc(listsOf([]int{0, 1}, 5), func(list []int) bool { return !slices.Contains(list, 1) })
	for _, many := range []int{7, 24, 99, 100} {
		drains = append(drains, rarely(many, 0), rarely(many, many/2), rarely(many, many-1), slices.Repeat([]int{1}, many))
		mixed := mixedNumbers(many, 2, many)
		mixed[many/3] = 1
		drains = append(drains, mixed)
	}
	return drains
}

// badDrains are numbers that do not tell which slots are open.
func badDrains() [][]int {
	bad := [][]int{nil, {}, {0}, {0, 0}, make([]int, 99), make([]int, 100), make([]int, 101), make([]int, 5000)}
	bad = append(bad, slices.Repeat([]int{1}, 101), rarely(101, 0), rarely(101, 100), slices.Repeat([]int{1, 0}, 100))
	for _, x := range notBits {
		for _, many := range []int{1, 2, 3, 100} {
			for _, at := range []int{0, many / 2, many - 1} {
				none, open := make([]int, many), slices.Repeat([]int{1}, many)
				none[at], open[at] = x, x
				bad = append(bad, none, open)
			}
		}
	}
	return bad
}

// creditTimes returns in which slots frames are sent and taken if there is no end of
// slots, as the test reckons it: frame by frame. A frame behind as many others as
// there is room for goes by the credit that came back for the first of these.
func creditTimes(room, delay, many int, drain []int) (sent, taken []int) {
	for k := range many {
		goes, free := 0, 0
		if k > 0 {
			goes, free = sent[k-1]+1, taken[k-1]+1
		}
		if k >= room {
			goes = max(goes, taken[k-room]+delay)
		}
		at := max(goes+delay, free)
		for drain[at%len(drain)] == 0 {
			at++
		}
		sent, taken = append(sent, goes), append(taken, at)
	}
	return sent, taken
}

// countBelow returns how many of ascending numbers are below another one.
func countBelow(list []int, n int) int {
	many, _ := slices.BinarySearch(list, n)
	return many
}

// creditsUntil returns what comes of frames in so many slots that are sent and taken
// in some, as the test reckons it: most of them wait when one has just come.
func creditsUntil(delay int, sent, taken []int, slots int) impl.CreditRun {
	end := 0
	if len(taken) > 0 {
		end = taken[len(taken)-1] + 1
	}
	run := impl.CreditRun{Slots: min(slots, end), Done: slots >= end}
	run.Sent, run.Taken = countBelow(sent, run.Slots), countBelow(taken, run.Slots)
	for k, at := range sent {
		if at+delay < run.Slots {
			run.Most = max(run.Most, k+1-countBelow(taken, at+delay))
		}
	}
	return run
}

// checkCredits holds what comes of frames that are sent by credits against the
// reckoning, with each of some numbers of slots.
func checkCredits(t *testing.T, room, delay, many int, drain []int, slots ...int) {
	t.Helper()
	sent, taken := creditTimes(room, delay, many, drain)
	for _, n := range slots {
		want := creditsUntil(delay, sent, taken, n)
		if got, ok := impl.RunCredits(room, delay, many, drain, n); !ok || got != want {
			t.Fatalf("RunCredits(%d, %d, %d, %v, %d) = %v, %v, want %v", room, delay, many, drain, n, got, ok, want)
		}
	}
}

// checkNoCredits looks whether frames are sent by credits all the same.
func checkNoCredits(t *testing.T, room, delay, many int, drain []int, slots int) {
	t.Helper()
	if got, ok := impl.RunCredits(room, delay, many, drain, slots); ok || got != (impl.CreditRun{}) {
		t.Errorf("RunCredits(%d, %d, %d, %v, %d) = %v, %v", room, delay, many, drain, slots, got, ok)
	}
}

func TestCreditConstants(t *testing.T) {
	got := []int{impl.MaxRoom, impl.MaxDelay, impl.MaxDrive}
	if want := []int{40, 12, 3000}; !slices.Equal(got, want) {
		t.Errorf("MaxRoom, MaxDelay and MaxDrive are %v, want %v", got, want)
	}
}

func TestRunCredits(t *testing.T) {
	always := []int{1}
	cases := []struct {
		name              string
		room, delay, many int
		drain             []int
		slots             int
		want              impl.CreditRun
	}{
		{"the document's example", 2, 1, 3, always, 99, impl.CreditRun{Sent: 3, Taken: 3, Most: 1, Slots: 4, Done: true}},
		{"no frames", 1, 1, 0, always, 99, impl.CreditRun{Done: true}},
		{"no frames and no slots", 40, 12, 0, always, 0, impl.CreditRun{Done: true}},
		{"a frame and no slots", 1, 1, 1, always, 0, impl.CreditRun{}},
		{"a frame and a slot", 1, 1, 1, always, 1, impl.CreditRun{Sent: 1, Slots: 1}},
		{"a frame and two slots", 1, 1, 1, always, 2, impl.CreditRun{Sent: 1, Taken: 1, Most: 1, Slots: 2, Done: true}},
		{"room for one frame", 1, 1, 3, always, 99, impl.CreditRun{Sent: 3, Taken: 3, Most: 1, Slots: 6, Done: true}},
		{"room for one frame, a longer way", 1, 3, 2, always, 99, impl.CreditRun{Sent: 2, Taken: 2, Most: 1, Slots: 10, Done: true}},
		{"room for one frame, every second slot", 1, 1, 2, []int{0, 1}, 99, impl.CreditRun{Sent: 2, Taken: 2, Most: 1, Slots: 4, Done: true}},
		{"room for one frame, each other second slot", 1, 1, 2, []int{1, 0}, 99, impl.CreditRun{Sent: 2, Taken: 2, Most: 1, Slots: 5, Done: true}},
		{"the longest way", 40, 12, 1, always, 13, impl.CreditRun{Sent: 1, Taken: 1, Most: 1, Slots: 13, Done: true}},
		{"the longest way, a slot too few", 40, 12, 1, always, 12, impl.CreditRun{Sent: 1, Slots: 12}},
		{"all on their way", 5, 3, 5, always, 3, impl.CreditRun{Sent: 3, Slots: 3}},
		{"all but one on their way", 5, 3, 5, always, 4, impl.CreditRun{Sent: 4, Taken: 1, Most: 1, Slots: 4}},
		{"the credits are on their way", 2, 3, 5, always, 6, impl.CreditRun{Sent: 2, Taken: 2, Most: 1, Slots: 6}},
		{"a credit has come back", 2, 3, 5, always, 7, impl.CreditRun{Sent: 3, Taken: 2, Most: 1, Slots: 7}},
		{"every fourth slot", 3, 1, 3, []int{0, 0, 0, 1}, 99, impl.CreditRun{Sent: 3, Taken: 3, Most: 3, Slots: 12, Done: true}},
		{"every fourth slot, more frames than room", 3, 1, 5, []int{0, 0, 0, 1}, 99, impl.CreditRun{Sent: 5, Taken: 5, Most: 3, Slots: 20, Done: true}},
		{"frames that wait when time is over", 3, 1, 5, []int{0, 0, 0, 1}, 3, impl.CreditRun{Sent: 3, Most: 2, Slots: 3}},
		{"a slot that opens again too late", 4, 2, 9, rarely(100, 99), 99, impl.CreditRun{Sent: 4, Most: 4, Slots: 99}},
		{"a slot that opens in the end", 4, 2, 9, rarely(100, 99), 100, impl.CreditRun{Sent: 4, Taken: 1, Most: 4, Slots: 100}},
		{"a slot that is open when nothing has come", 2, 1, 2, rarely(100, 0), 3000, impl.CreditRun{Sent: 2, Taken: 2, Most: 2, Slots: 201, Done: true}},
		{"the last slot that may be", 40, 1, 30, rarely(100, 99), 3000, impl.CreditRun{Sent: 30, Taken: 30, Most: 30, Slots: 3000, Done: true}},
		{"the last slot but one", 40, 1, 30, rarely(100, 99), 2999, impl.CreditRun{Sent: 30, Taken: 29, Most: 30, Slots: 2999}},
		{"a frame too many for all slots", 40, 1, 31, rarely(100, 99), 3000, impl.CreditRun{Sent: 31, Taken: 30, Most: 31, Slots: 3000}},
	}
	for _, c := range cases {
		if got, ok := impl.RunCredits(c.room, c.delay, c.many, c.drain, c.slots); !ok || got != c.want {
			t.Errorf("%s: RunCredits(%d, %d, %d, %v, %d) = %v, %v, want %v", c.name, c.room, c.delay, c.many, c.drain, c.slots, got, ok, c.want)
		}
		checkCredits(t, c.room, c.delay, c.many, c.drain, c.slots)
	}
}

// TestCreditsOfAllRooms looks at each room and delay, with all short drains and some
// long ones.
func TestCreditsOfAllRooms(t *testing.T) {
	drains := goodDrains()
	for room := 1; room <= 40; room++ {
		for delay := 1; delay <= 12; delay++ {
			for i, drain := range drains {
				many := mixedNumbers(1, 501, room*1000+delay*50+i)[0]
				checkCredits(t, room, delay, many%60, drain, 0, 1, delay, delay+1, 50, 3000)
				if i%10 == 0 {
					checkCredits(t, room, delay, many, drain, 500, 3000)
				}
			}
		}
	}
}

// TestCreditsSlotBySlot looks at what comes of frames with each number of slots.
func TestCreditsSlotBySlot(t *testing.T) {
	drains := goodDrains()
	for _, room := range []int{1, 2, 3, 7, 24, 40} {
		for _, delay := range []int{1, 2, 5, 12} {
			for i, drain := range drains {
				checkCredits(t, room, delay, 1+(i*7+room)%50, drain, upTo(0, 130)...)
			}
		}
	}
}

// TestMostFrames looks at up to as many frames as can be sent by credits.
func TestMostFrames(t *testing.T) {
	for _, room := range []int{1, 2, 23, 24, 40} {
		for _, delay := range []int{1, 3, 12} {
			for _, drain := range [][]int{{1}, {0, 1}, {1, 1, 0, 0, 0}, rarely(100, 7), slices.Repeat([]int{1}, 100)} {
				for _, many := range []int{499, 500} {
					checkCredits(t, room, delay, many, drain, 0, 100, 511, 512, 513, 2999, 3000)
				}
			}
		}
	}
}

func TestRunCreditsInvalid(t *testing.T) {
	for _, drain := range badDrains() {
		checkNoCredits(t, 1, 1, 0, drain, 0)
		checkNoCredits(t, 2, 1, 3, drain, 99)
		checkNoCredits(t, 40, 12, 500, drain, 3000)
	}
	for _, drain := range [][]int{{1}, {0, 1}, rarely(100, 99), {0}, nil} {
		for _, room := range notRooms {
			checkNoCredits(t, room, 1, 0, drain, 0)
			checkNoCredits(t, room, 12, 500, drain, 3000)
		}
		for _, delay := range notDelays {
			checkNoCredits(t, 1, delay, 0, drain, 0)
			checkNoCredits(t, 40, delay, 500, drain, 3000)
		}
		for _, many := range notFrameCounts {
			checkNoCredits(t, 1, 1, many, drain, 0)
			checkNoCredits(t, 40, 12, many, drain, 3000)
		}
		for _, slots := range notDriveSlots {
			checkNoCredits(t, 1, 1, 0, drain, slots)
			checkNoCredits(t, 40, 12, 500, drain, slots)
		}
		checkNoCredits(t, 0, 0, -1, drain, -1)
	}
}

// slotsByRounds returns how many slots frames need that are taken at once, as the
// test reckons it: with little room, as many frames go as there is room for, and no
// others until the first credit is back.
func slotsByRounds(room, delay, many int) int {
	if many == 0 {
		return 0
	}
	if room >= 2*delay {
		return many + delay
	}
	return (many-1)/room*2*delay + (many-1)%room + delay + 1
}

func TestCreditSlots(t *testing.T) {
	cases := []struct {
		name                    string
		room, delay, many, want int
	}{
		{"the document's example", 2, 1, 3, 4},
		{"no frames", 1, 1, 0, 0},
		{"no frames, all room, the longest way", 40, 12, 0, 0},
		{"one frame", 1, 1, 1, 2},
		{"one frame, the longest way", 1, 12, 1, 13},
		{"room for one frame", 1, 1, 3, 6},
		{"room for one frame, a longer way", 1, 3, 2, 10},
		{"room enough", 6, 3, 20, 23},
		{"room for a frame less", 5, 3, 20, 26},
		{"all frames", 2, 1, 500, 501},
		{"all frames, room for one", 1, 1, 500, 1000},
		{"all frames, the longest way", 40, 12, 500, 512},
		{"too many slots", 1, 12, 500, -1},
		{"just enough slots", 1, 12, 125, 2989},
		{"one frame more", 1, 12, 126, -1},
		{"just enough slots, a shorter way", 1, 3, 500, 2998},
		{"a longer way", 1, 4, 500, -1},
	}
	for _, c := range cases {
		if got := impl.CreditSlots(c.room, c.delay, c.many); got != c.want {
			t.Errorf("%s: CreditSlots(%d, %d, %d) = %d, want %d", c.name, c.room, c.delay, c.many, got, c.want)
		}
	}
	for room := 1; room <= 40; room++ {
		for delay := 1; delay <= 12; delay++ {
			for _, many := range []int{0, 1, 2, room - 1, room, room + 1, 2 * room, 2*room + 1, 77, 125, 126, 250, 251, 374, 499, 500} {
				want := slotsByRounds(room, delay, many)
				if want > 3000 {
					want = -1
				}
				if got := impl.CreditSlots(room, delay, many); got != want {
					t.Errorf("CreditSlots(%d, %d, %d) = %d, want %d", room, delay, many, got, want)
				}
			}
		}
	}
}

// TestCreditSlotsAtTheEnd looks, for each room and delay, at the greatest number of
// frames for which all slots that there may be are enough, and at one more.
func TestCreditSlotsAtTheEnd(t *testing.T) {
	for room := 1; room <= 40; room++ {
		for delay := 1; delay <= 12; delay++ {
			for many := 0; many < 500; many++ {
				enough := slotsByRounds(room, delay, many)
				if enough > 3000 || slotsByRounds(room, delay, many+1) <= 3000 {
					continue
				}
				if got := impl.CreditSlots(room, delay, many); got != enough {
					t.Errorf("CreditSlots(%d, %d, %d) = %d, want %d", room, delay, many, got, enough)
				}
				if got := impl.CreditSlots(room, delay, many+1); got != -1 {
					t.Errorf("CreditSlots(%d, %d, %d) = %d, want -1", room, delay, many+1, got)
				}
			}
		}
	}
}

func TestCreditSlotsInvalid(t *testing.T) {
	check := func(room, delay, many int) {
		t.Helper()
		if got := impl.CreditSlots(room, delay, many); got != -1 {
			t.Errorf("CreditSlots(%d, %d, %d) = %d, want -1", room, delay, many, got)
		}
	}
	for _, room := range notRooms {
		check(room, 1, 0)
		check(room, 12, 500)
	}
	for _, delay := range notDelays {
		check(1, delay, 0)
		check(40, delay, 500)
	}
	for _, many := range notFrameCounts {
		check(1, 1, many)
		check(40, 12, many)
	}
	check(0, 0, 0)
	check(-1, -1, -1)
}

func TestRoomFor(t *testing.T) {
	for delay, want := range map[int]int{1: 2, 2: 4, 3: 6, 4: 8, 5: 10, 6: 12, 7: 14, 8: 16, 9: 18, 10: 20, 11: 22, 12: 24} {
		if got := impl.RoomFor(delay); got != want {
			t.Errorf("RoomFor(%d) = %d, want %d", delay, got, want)
		}
	}
	for _, delay := range notDelays {
		if got := impl.RoomFor(delay); got != -1 {
			t.Errorf("RoomFor(%d) = %d, want -1", delay, got)
		}
	}
}

// TestRoomIsEnough holds that with as much room as RoomFor tells, or more, a frame is
// sent in each slot, and with less not.
func TestRoomIsEnough(t *testing.T) {
	for delay := 1; delay <= 12; delay++ {
		enough := impl.RoomFor(delay)
		for room := 1; room <= 40; room++ {
			for _, many := range []int{1, 40, 41, 100, 500} {
				slots := impl.CreditSlots(room, delay, many)
				if all := slots == many+delay; all != (room >= enough || many <= room) {
					t.Errorf("CreditSlots(%d, %d, %d) = %d, and RoomFor(%d) = %d", room, delay, many, slots, delay, enough)
				}
			}
		}
	}
}

// openAhead returns how many slots ahead of one are open, as the test reckons it.
func openAhead(drain []int, slot int) int {
	return slot/len(drain)*sumOf(drain) + sumOf(drain[:slot%len(drain)])
}

func TestOpenSlots(t *testing.T) {
	cases := []struct {
		name    string
		drain   []int
		from, n int
		want    int
	}{
		{"the given example", []int{1, 0}, 1, 3, 1},
		{"no slots", []int{1}, 0, 0, 0},
		{"no slots from the last one on", []int{1}, 3000, 0, 0},
		{"one slot that is open", []int{1, 0}, 0, 1, 1},
		{"one slot that is not", []int{1, 0}, 1, 1, 0},
		{"all slots", []int{1}, 0, 3000, 3000},
		{"all slots from the last one on", []int{1}, 3000, 3000, 3000},
		{"a slot of a hundred", rarely(100, 99), 0, 99, 0},
		{"a slot of a hundred, with it", rarely(100, 99), 0, 100, 1},
		{"a slot of a hundred, from it on", rarely(100, 99), 99, 101, 2},
		{"a slot of a hundred, behind it", rarely(100, 99), 100, 99, 0},
		{"within a round", []int{0, 1, 1, 0, 1}, 1, 3, 2},
		{"over two rounds", []int{0, 1, 1, 0, 1}, 4, 4, 3},
		{"many rounds", []int{0, 1, 1, 0, 1}, 3, 1000, 600},
	}
	for _, c := range cases {
		if got := impl.OpenSlots(c.drain, c.from, c.n); got != c.want {
			t.Errorf("%s: OpenSlots(%v, %d, %d) = %d, want %d", c.name, c.drain, c.from, c.n, got, c.want)
		}
	}
	for _, drain := range goodDrains() {
		for _, from := range []int{0, 1, 2, 3, 4, 6, 99, 100, 101, 2999, 3000} {
			for _, n := range []int{0, 1, 2, 3, 5, 7, 24, 99, 100, 101, 2999, 3000} {
				want := openAhead(drain, from+n) - openAhead(drain, from)
				if got := impl.OpenSlots(drain, from, n); got != want {
					t.Errorf("OpenSlots(%v, %d, %d) = %d, want %d", drain, from, n, got, want)
				}
			}
		}
	}
}

func TestOpenSlotsInvalid(t *testing.T) {
	check := func(drain []int, from, n int) {
		t.Helper()
		if got := impl.OpenSlots(drain, from, n); got != -1 {
			t.Errorf("OpenSlots(%v, %d, %d) = %d, want -1", drain, from, n, got)
		}
	}
	for _, drain := range badDrains() {
		check(drain, 0, 0)
		check(drain, 1, 3)
		check(drain, 3000, 3000)
	}
	for _, x := range notDriveSlots {
		for _, drain := range [][]int{{1}, {1, 0}, rarely(100, 99), nil} {
			check(drain, x, 0)
			check(drain, x, 3000)
			check(drain, 0, x)
			check(drain, 3000, x)
			check(drain, x, x)
		}
	}
}

// checkRoom looks, slot by slot, whether there is room for all frames that wait, and
// for those on their way, and whether the receiver takes frames that have come in
// open slots alone.
func checkRoom(t *testing.T, room, delay, many int, drain []int, slots int) {
	t.Helper()
	runs := []impl.CreditRun{{Done: many == 0}}
	most := 0
	for slot := range slots {
		run, ok := impl.RunCredits(room, delay, many, drain, slot+1)
		last := runs[slot]
		sent, taken := run.Sent-last.Sent, run.Taken-last.Taken
		if !ok || sent < 0 || sent > 1 || taken < 0 || taken > impl.OpenSlots(drain, slot, 1) {
			t.Fatalf("RunCredits(%d, %d, %d, %v, %d) = %v, %v, and in a slot less %v", room, delay, many, drain, slot+1, run, ok, last)
		}
		came := runs[max(slot+1-delay, 0)].Sent
		if !last.Done {
			most = max(most, came-last.Taken)
		}
		if most > room || run.Most != most || run.Sent-run.Taken > room {
			t.Fatalf("RunCredits(%d, %d, %d, %v, %d) = %v: at most %d wait", room, delay, many, drain, slot+1, run, most)
		}
		if run.Taken > came || run.Sent > many || run.Done != (run.Taken == many) {
			t.Fatalf("RunCredits(%d, %d, %d, %v, %d) = %v: %d have come", room, delay, many, drain, slot+1, run, came)
		}
		runs = append(runs, run)
	}
}

// TestNoFrameWithoutRoom is promise 13: no more frames wait than there is room.
func TestNoFrameWithoutRoom(t *testing.T) {
	for i, drain := range goodDrains() {
		for _, room := range []int{1, 2, 3, 5, 12, 40} {
			for _, delay := range []int{1, 2, 7, 12} {
				checkRoom(t, room, delay, (i*13+room)%70, drain, 120)
			}
		}
	}
	for room := 1; room <= 40; room++ {
		for delay := 1; delay <= 12; delay++ {
			for _, drain := range [][]int{{1}, {0, 1}, {0, 0, 1, 1, 0}, rarely(100, 50), rarely(100, 99)} {
				run, ok := impl.RunCredits(room, delay, 500, drain, 3000)
				if !ok || run.Most > room || run.Sent-run.Taken > room {
					t.Errorf("RunCredits(%d, %d, 500, %v, 3000) = %v, %v", room, delay, drain, run, ok)
				}
			}
		}
	}
}

// TestAllRoomIsUsed holds that, where slots are never open for long, as many frames
// wait as there is room for.
func TestAllRoomIsUsed(t *testing.T) {
	for room := 1; room <= 40; room++ {
		for delay := 1; delay <= 12; delay++ {
			for _, many := range []int{1, 20, 40, 41, 500} {
				run, ok := impl.RunCredits(room, delay, many, rarely(100, 99), 3000)
				if !ok || run.Most != min(room, many) {
					t.Errorf("RunCredits(%d, %d, %d, .., 3000) = %v, %v", room, delay, many, run, ok)
				}
			}
		}
	}
}

// TestCreditsKeepNothing looks whether a call changes its argument, or what comes of
// the next one.
func TestCreditsKeepNothing(t *testing.T) {
	for many := 1; many <= 100; many++ {
		// drain, and numbers behind it.
		whole := append(slices.Repeat([]int{1}, many), mixedNumbers(60, 9, many)...)
		for i := range many / 2 {
			whole[2*i] = 0
		}
		before := slices.Clone(whole)
		drain := whole[:many]
		first, _ := impl.RunCredits(3, 2, 40, drain, 500)
		open := impl.OpenSlots(drain, 3, 500)
		impl.CreditSlots(4, 3, 50)
		impl.RunCredits(3, 2, 40, drain, 7)
		if second, _ := impl.RunCredits(3, 2, 40, drain, 500); !first.Done || second != first {
			t.Errorf("RunCredits returns %v, and then %v", first, second)
		}
		if again := impl.OpenSlots(drain, 3, 500); again != open {
			t.Errorf("OpenSlots returns %d, and then %d", open, again)
		}
		checkApart(t, "a function of credits", whole, before)
	}
}
