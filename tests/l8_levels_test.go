package tests

import (
	"slices"
	"testing"

	"loop.example/wholenet/impl"
)

// notBits are numbers that are neither bits nor levels.
var notBits = append([]int{2, 3, 10, 94}, strangeNumbers...)

// notWidths are numbers of ticks that no level lasts.
var notWidths = append([]int{0, 41, 42, 80, 400}, strangeNumbers...)

// listsOf returns all lists of at most so many of some numbers.
func listsOf(numbers []int, many int) [][]int {
	lists := [][]int{nil}
	last := lists
	for range many {
		var next [][]int
		for _, list := range last {
			for _, x := range numbers {
				next = append(next, append(slices.Clone(list), x))
			}
		}
		lists = append(lists, next...)
		last = next
	}
	return lists
}

// levelsByHand returns the levels of bits, as the test reckons them.
func levelsByHand(bits []int) []int {
	var levels []int
	for _, bit := range bits {
		levels = append(levels, [][]int{{0, 1}, {1, 0}}[bit]...)
	}
	return levels
}

// bitsByPairs returns the bits of levels, as the test reckons them, and whether
// there are such.
func bitsByPairs(levels []int) ([]int, bool) {
	var bits []int
	for pair := range slices.Chunk(levels, 2) {
		switch {
		case slices.Equal(pair, []int{0, 1}):
			bits = append(bits, 0)
		case slices.Equal(pair, []int{1, 0}):
			bits = append(bits, 1)
		default:
			return nil, false
		}
	}
	return bits, len(levels) <= 400
}

// ticksByHand returns levels tick by tick, as the test reckons them.
func ticksByHand(levels, widths []int) []int {
	var ticks []int
	for i, level := range levels {
		width := widths[len(widths)-1]
		if i < len(widths) {
			width = widths[i]
		}
		for range width {
			ticks = append(ticks, level)
		}
	}
	return ticks
}

// runsByTurns returns how many equal ticks stand together, as the test reckons
// it: how far it is from each turn to the next one.
func runsByTurns(ticks []int) []int {
	var turns, runs []int
	for i := range ticks {
		if i == 0 || ticks[i] != ticks[i-1] {
			turns = append(turns, i)
		}
	}
	turns = append(turns, len(ticks))
	for i := 1; i < len(turns); i++ {
		runs = append(runs, turns[i]-turns[i-1])
	}
	return runs
}

// levelsByRuns returns the levels that ticks are, as the test reckons them, and
// whether there are such: of k levels together the ticks are those of more than
// k - 1/2 levels, or as many, and of less than k + 1/2.
func levelsByRuns(ticks []int, width int) ([]int, bool) {
	if width < 1 || width > 40 || len(ticks) > 16000 {
		return nil, false
	}
	var levels []int
	at := 0
	for _, n := range runsByTurns(ticks) {
		k := 1
		for (2*k+1)*width <= 2*n {
			k++
		}
		if ticks[at] < 0 || ticks[at] > 1 || k > 2 || 2*n < (2*k-1)*width {
			return nil, false
		}
		levels = append(levels, slices.Repeat([]int{ticks[at]}, k)...)
		at += n
	}
	if len(levels) > 400 {
		return nil, false
	}
	return levels, true
}

// ticksOfRuns returns ticks that stand together as often as numbers tell, the
// first ones being of a level, and those behind of the other one by turns.
func ticksOfRuns(first int, runs ...int) []int {
	var ticks []int
	for i, n := range runs {
		ticks = append(ticks, slices.Repeat([]int{(first + i) % 2}, n)...)
	}
	return ticks
}

// checkTicks holds all that the chapter tells of ticks against the reckonings.
func checkTicks(t *testing.T, ticks []int, width int) {
	t.Helper()
	if got, want := impl.RunsOf(ticks), runsByTurns(ticks); !slices.Equal(got, want) {
		t.Errorf("RunsOf(%v) = %v, want %v", ticks, got, want)
	}
	levels, fine := levelsByRuns(ticks, width)
	if got, ok := impl.LevelsFrom(ticks, width); ok != fine || !slices.Equal(got, levels) {
		t.Errorf("LevelsFrom(%v, %d) = %v, %v, want %v, %v", ticks, width, got, ok, levels, fine)
	}
	bits, right := bitsByPairs(levels)
	if got, ok := impl.ReadLine(ticks, width); ok != (fine && right) || !slices.Equal(got, bits) {
		t.Errorf("ReadLine(%v, %d) = %v, %v, want %v, %v", ticks, width, got, ok, bits, fine && right)
	}
}

// checkNoLine looks whether ticks are taken for levels.
func checkNoLine(t *testing.T, ticks []int, width int) {
	t.Helper()
	if got, ok := impl.LevelsFrom(ticks, width); ok || len(got) != 0 {
		t.Errorf("LevelsFrom of %d ticks with the width %d = %v, %v", len(ticks), width, got, ok)
	}
	if got, ok := impl.ReadLine(ticks, width); ok || len(got) != 0 {
		t.Errorf("ReadLine of %d ticks with the width %d = %v, %v", len(ticks), width, got, ok)
	}
}

func TestLevelLimits(t *testing.T) {
	if got, want := []int{impl.MaxLevels, impl.MaxWidth}, []int{400, 40}; !slices.Equal(got, want) {
		t.Errorf("the constants are %v, want %v", got, want)
	}
}

func TestLevelsOf(t *testing.T) {
	cases := []struct{ bits, want []int }{
		{nil, nil},
		{[]int{}, nil},
		{[]int{0}, []int{0, 1}},
		{[]int{1}, []int{1, 0}},
		{[]int{1, 1}, []int{1, 0, 1, 0}},
		{[]int{1, 0}, []int{1, 0, 0, 1}},
		{[]int{0, 1, 1, 0}, []int{0, 1, 1, 0, 1, 0, 0, 1}},
	}
	for _, c := range cases {
		if got := impl.LevelsOf(c.bits); !slices.Equal(got, c.want) {
			t.Errorf("LevelsOf(%v) = %v, want %v", c.bits, got, c.want)
		}
	}
	lists := listsOf([]int{0, 1}, 10)
	for many := range 201 {
		lists = append(lists, mixedNumbers(many, 2, many))
	}
	for _, bits := range lists {
		if got, want := impl.LevelsOf(bits), levelsByHand(bits); !slices.Equal(got, want) {
			t.Errorf("LevelsOf(%v) = %v, want %v", bits, got, want)
		}
	}
}

func TestLevelsOfInvalid(t *testing.T) {
	for _, many := range []int{201, 202, 400, 401, 10000} {
		for _, bits := range [][]int{make([]int, many), mixedNumbers(many, 2, many)} {
			if got := impl.LevelsOf(bits); len(got) != 0 {
				t.Errorf("LevelsOf of %d bits has %d levels", many, len(got))
			}
		}
	}
	for _, x := range notBits {
		for _, many := range []int{1, 2, 3, 200} {
			for _, at := range []int{0, many / 2, many - 1} {
				bits := mixedNumbers(many, 2, many)
				bits[at] = x
				if got := impl.LevelsOf(bits); len(got) != 0 {
					t.Errorf("LevelsOf(%v) = %v", bits, got)
				}
			}
		}
	}
}

func TestBitsFrom(t *testing.T) {
	cases := []struct {
		levels, want []int
		fine         bool
	}{
		{nil, nil, true},
		{[]int{}, nil, true},
		{[]int{0, 1}, []int{0}, true},
		{[]int{1, 0}, []int{1}, true},
		{[]int{1, 0, 1, 0}, []int{1, 1}, true},
		{[]int{1, 0, 0, 1}, []int{1, 0}, true},
		{[]int{0, 1, 1, 0}, []int{0, 1}, true},
		{[]int{0}, nil, false},
		{[]int{1}, nil, false},
		// A bit has a turn in its middle.
		{[]int{0, 0}, nil, false},
		{[]int{1, 1}, nil, false},
		{[]int{0, 1, 1}, nil, false},
		{[]int{0, 0, 1, 1}, nil, false},
		{[]int{1, 0, 0, 0, 1, 1}, nil, false},
		// One level too many ahead makes other bits, or none.
		{[]int{1, 0, 1, 0, 1, 1}, nil, false},
		{[]int{1, 1, 0, 1, 0, 1}, nil, false},
	}
	for _, c := range cases {
		if got, ok := impl.BitsFrom(c.levels); ok != c.fine || !slices.Equal(got, c.want) {
			t.Errorf("BitsFrom(%v) = %v, %v, want %v, %v", c.levels, got, ok, c.want, c.fine)
		}
	}
	for _, levels := range slices.Concat(listsOf([]int{0, 1}, 12), listsOf([]int{-1, 0, 1, 2}, 6)) {
		want, fine := bitsByPairs(levels)
		if got, ok := impl.BitsFrom(levels); ok != fine || !slices.Equal(got, want) {
			t.Errorf("BitsFrom(%v) = %v, %v, want %v, %v", levels, got, ok, want, fine)
		}
	}
}

func TestBitsThereAndBackAsLevels(t *testing.T) {
	for many := range 201 {
		for _, bits := range [][]int{make([]int, many), slices.Repeat([]int{1}, many), mixedNumbers(many, 2, many)} {
			if got, ok := impl.BitsFrom(impl.LevelsOf(bits)); !ok || !slices.Equal(got, bits) {
				t.Errorf("BitsFrom of the levels of %v = %v, %v", bits, got, ok)
			}
		}
	}
}

func TestBitsFromInvalid(t *testing.T) {
	for _, many := range []int{201, 202, 300, 5000} {
		for _, bits := range [][]int{make([]int, many), slices.Repeat([]int{1}, many), mixedNumbers(many, 2, many)} {
			if got, ok := impl.BitsFrom(levelsByHand(bits)); ok || len(got) != 0 {
				t.Errorf("BitsFrom of %d levels = %v, %v", 2*many, got, ok)
			}
		}
	}
	for _, many := range []int{1, 2, 200} {
		levels := levelsByHand(mixedNumbers(many, 2, many))
		for _, at := range []int{0, 1, many, 2*many - 2, 2*many - 1} {
			for _, x := range append([]int{1 - levels[at]}, notBits...) {
				wrong := slices.Clone(levels)
				wrong[at] = x
				if got, ok := impl.BitsFrom(wrong); ok || len(got) != 0 {
					t.Errorf("BitsFrom of %d levels, the one at %d wrong, = %v, %v", 2*many, at, got, ok)
				}
			}
		}
		for _, cut := range [][]int{levels[1:], levels[:2*many-1]} {
			if got, ok := impl.BitsFrom(cut); ok || len(got) != 0 {
				t.Errorf("BitsFrom of %d levels = %v, %v", len(cut), got, ok)
			}
		}
	}
}

func TestTicksOf(t *testing.T) {
	cases := []struct{ levels, widths, want []int }{
		{nil, []int{1}, nil},
		{nil, []int{40, 1, 40}, nil},
		{[]int{1}, []int{1}, []int{1}},
		{[]int{0}, []int{3}, []int{0, 0, 0}},
		{[]int{1, 0}, []int{2, 1}, []int{1, 1, 0}},
		{[]int{1, 0}, []int{1, 2}, []int{1, 0, 0}},
		{[]int{1, 1}, []int{1, 2}, []int{1, 1, 1}},
		// The last width is that of all levels behind.
		{[]int{1, 0, 1}, []int{2}, []int{1, 1, 0, 0, 1, 1}},
		{[]int{1, 0, 1, 0}, []int{1, 3}, []int{1, 0, 0, 0, 1, 1, 1, 0, 0, 0}},
		{[]int{1, 0, 0, 1}, []int{4, 5, 3}, []int{1, 1, 1, 1, 0, 0, 0, 0, 0, 0, 0, 0, 1, 1, 1}},
		// Widths behind those of the levels are those of nothing.
		{[]int{1}, []int{2, 40, 7}, []int{1, 1}},
		{[]int{0, 1}, []int{1, 1, 9}, []int{0, 1}},
	}
	for _, c := range cases {
		if got := impl.TicksOf(c.levels, c.widths); !slices.Equal(got, c.want) {
			t.Errorf("TicksOf(%v, %v) = %v, want %v", c.levels, c.widths, got, c.want)
		}
	}
	for _, levels := range listsOf([]int{0, 1}, 5) {
		for _, widths := range listsOf([]int{1, 2, 3}, 6)[1:] {
			if got, want := impl.TicksOf(levels, widths), ticksByHand(levels, widths); !slices.Equal(got, want) {
				t.Errorf("TicksOf(%v, %v) = %v, want %v", levels, widths, got, want)
			}
		}
	}
}

// TestTicksOfLimits is for as many levels as there may be, of all widths.
func TestTicksOfLimits(t *testing.T) {
	for _, many := range []int{1, 2, 399, 400} {
		levels := mixedNumbers(many, 2, many)
		for width := 1; width <= 40; width++ {
			if got, want := impl.TicksOf(levels, []int{width}), ticksByHand(levels, []int{width}); !slices.Equal(got, want) {
				t.Errorf("TicksOf of %d levels with the width %d = %v", many, width, got)
			}
		}
		for _, known := range []int{1, 2, many - 1, many, many + 1, 401, 1000} {
			widths := mixedNumbers(max(known, 1), 40, known)
			for i := range widths {
				widths[i]++
			}
			if got, want := impl.TicksOf(levels, widths), ticksByHand(levels, widths); !slices.Equal(got, want) {
				t.Errorf("TicksOf of %d levels with %d widths = %v", many, len(widths), got)
			}
		}
	}
	if got := impl.TicksOf(make([]int, 400), []int{40}); len(got) != 16000 {
		t.Errorf("TicksOf of 400 levels with the width 40 has %d ticks", len(got))
	}
}

func TestTicksOfInvalid(t *testing.T) {
	check := func(levels, widths []int) {
		t.Helper()
		if got := impl.TicksOf(levels, widths); len(got) != 0 {
			t.Errorf("TicksOf of %d levels with %d widths has %d ticks", len(levels), len(widths), len(got))
		}
	}
	for _, many := range []int{401, 402, 800, 5000} {
		check(make([]int, many), []int{1})
		check(mixedNumbers(many, 2, many), slices.Repeat([]int{3}, many))
	}
	for _, many := range []int{0, 1, 2, 400} {
		check(make([]int, many), nil)
		check(make([]int, many), []int{})
	}
	for _, many := range []int{1, 2, 3, 400} {
		for _, at := range []int{0, many / 2, many - 1} {
			for _, x := range notBits {
				levels := mixedNumbers(many, 2, many)
				levels[at] = x
				check(levels, []int{1})
			}
			for _, x := range notWidths {
				widths := slices.Repeat([]int{2}, many)
				widths[at] = x
				check(mixedNumbers(many, 2, many), widths)
				// A width that no level has is no width all the same.
				check([]int{1}, append([]int{1}, widths...))
				check(make([]int, 400), append([]int{1, 40}, widths...))
			}
		}
	}
}

func TestRunsOf(t *testing.T) {
	cases := []struct{ ticks, want []int }{
		{nil, nil},
		{[]int{}, nil},
		{[]int{0}, []int{1}},
		{[]int{1}, []int{1}},
		{[]int{0, 0}, []int{2}},
		{[]int{0, 1}, []int{1, 1}},
		{[]int{1, 1, 0}, []int{2, 1}},
		{[]int{1, 0, 0}, []int{1, 2}},
		{[]int{0, 1, 0}, []int{1, 1, 1}},
		{[]int{0, 0, 0, 1, 1, 0, 1}, []int{3, 2, 1, 1}},
		// Runs are told of all numbers, not of levels alone.
		{[]int{2, 2, -1, 3, 3, 3}, []int{2, 1, 3}},
		{[]int{0, 2, 0, -2, -2}, []int{1, 1, 1, 2}},
		{strangeNumbers, slices.Repeat([]int{1}, len(strangeNumbers))},
	}
	for _, c := range cases {
		if got := impl.RunsOf(c.ticks); !slices.Equal(got, c.want) {
			t.Errorf("RunsOf(%v) = %v, want %v", c.ticks, got, c.want)
		}
	}
	for _, ticks := range slices.Concat(listsOf([]int{0, 1}, 12), listsOf([]int{-1, 0, 1, 2}, 6)) {
		if got, want := impl.RunsOf(ticks), runsByTurns(ticks); !slices.Equal(got, want) {
			t.Errorf("RunsOf(%v) = %v, want %v", ticks, got, want)
		}
	}
	for _, many := range []int{100, 400, 16000, 16001, 100000} {
		if got := impl.RunsOf(make([]int, many)); !slices.Equal(got, []int{many}) {
			t.Errorf("RunsOf of %d equal ticks = %v", many, got)
		}
		for _, kinds := range []int{2, 3, 1000} {
			ticks := mixedNumbers(many, kinds, many)
			if got, want := impl.RunsOf(ticks), runsByTurns(ticks); !slices.Equal(got, want) {
				t.Errorf("RunsOf of %d mixed ticks has %d runs, want %d", many, len(got), len(want))
			}
		}
	}
}

// levelBounds has for some widths the least and the most ticks of one level, and
// the most of two.
var levelBounds = []struct{ width, least, one, two int }{
	{1, 1, 1, 2},
	{2, 1, 2, 4},
	{3, 2, 4, 7},
	{4, 2, 5, 9},
	{5, 3, 7, 12},
	{6, 3, 8, 14},
	{7, 4, 10, 17},
	{8, 4, 11, 19},
	{39, 20, 58, 97},
	{40, 20, 59, 99},
}

// TestLevelsOfRuns sets a run of all lengths alone, first, between others and last.
func TestLevelsOfRuns(t *testing.T) {
	for _, c := range levelBounds {
		for n := 1; n <= c.two+60; n++ {
			many := 0
			switch {
			case n >= c.least && n <= c.one:
				many = 1
			case n > c.one && n <= c.two:
				many = 2
			}
			for level := range 2 {
				w, other := c.width, 1-level
				run := slices.Repeat([]int{level}, many)
				places := []struct{ ticks, want []int }{
					{ticksOfRuns(level, n), run},
					{ticksOfRuns(level, n, w), append(slices.Clone(run), other)},
					{ticksOfRuns(other, w, n, w), slices.Concat([]int{other}, run, []int{other})},
					{ticksOfRuns(other, w, n), append([]int{other}, run...)},
				}
				for _, p := range places {
					if many == 0 {
						p.want = nil
					}
					if got, ok := impl.LevelsFrom(p.ticks, w); ok != (many > 0) || !slices.Equal(got, p.want) {
						t.Errorf("LevelsFrom(%v, %d) = %v, %v, want %v", p.ticks, w, got, ok, p.want)
					}
					checkTicks(t, p.ticks, w)
				}
			}
		}
	}
}

func TestOneRunOfAllWidths(t *testing.T) {
	for width := 1; width <= 40; width++ {
		for n := range 300 {
			for level := range 2 {
				checkTicks(t, ticksOfRuns(level, n), width)
			}
		}
		for _, n := range []int{15999, 16000} {
			checkNoLine(t, make([]int, n), width)
		}
	}
}

func TestTwoRunsOfAllWidths(t *testing.T) {
	for width := 1; width <= 40; width++ {
		for a := 1; a <= 3*width; a++ {
			for b := 1; b <= 3*width; b++ {
				checkTicks(t, ticksOfRuns(a%2, a, b), width)
			}
		}
	}
}

func TestAllShortLines(t *testing.T) {
	for _, ticks := range listsOf([]int{0, 1}, 12) {
		for width := 1; width <= 5; width++ {
			checkTicks(t, ticks, width)
		}
	}
	for _, ticks := range listsOf([]int{-1, 0, 1, 2}, 6) {
		for width := range 4 {
			checkTicks(t, ticks, width)
		}
	}
}

func TestMixedLines(t *testing.T) {
	for width := 1; width <= 40; width++ {
		for many := range 60 {
			// Most of these are runs of one level or of two.
			runs := mixedNumbers(many, 2*width, width+many)
			for i := range runs {
				runs[i] += width/2 + 1
			}
			checkTicks(t, ticksOfRuns(many%2, runs...), width)
		}
	}
}

func TestLevelsFromCases(t *testing.T) {
	cases := []struct {
		name         string
		ticks        []int
		width        int
		levels, bits []int
		read         bool
	}{
		{"no ticks", nil, 1, nil, nil, true},
		{"no ticks of the greatest width", []int{}, 40, nil, nil, true},
		{"the bits 1 and 1", ticksOfRuns(1, 4, 4, 4, 4), 4, []int{1, 0, 1, 0}, []int{1, 1}, true},
		{"the bits 1 and 0", ticksOfRuns(1, 4, 8, 4), 4, []int{1, 0, 0, 1}, []int{1, 0}, true},
		{"a clock that is too fast", ticksOfRuns(1, 3, 6, 3), 4, []int{1, 0, 0, 1}, []int{1, 0}, true},
		{"widths that are not alike", ticksOfRuns(1, 4, 8, 3), 4, []int{1, 0, 0, 1}, []int{1, 0}, true},
		{"short levels, and long ones", ticksOfRuns(0, 2, 5, 2, 9, 5, 2), 4, []int{0, 1, 0, 1, 1, 0, 1}, nil, false},
		{"the last level is missing", ticksOfRuns(1, 4, 8), 4, []int{1, 0, 0}, nil, false},
		{"the first level is missing", ticksOfRuns(0, 8, 4), 4, []int{0, 0, 1}, nil, false},
		{"the first run is of two levels", ticksOfRuns(0, 8, 4, 4), 4, []int{0, 0, 1, 0}, nil, false},
		{"the last run is of two levels", ticksOfRuns(0, 4, 4, 8), 4, []int{0, 1, 0, 0}, nil, false},
		{"two levels where a bit has its middle", ticksOfRuns(0, 4, 4, 8, 8), 4, []int{0, 1, 0, 0, 1, 1}, nil, false},
	}
	for _, c := range cases {
		if got, ok := impl.LevelsFrom(c.ticks, c.width); !ok || !slices.Equal(got, c.levels) {
			t.Errorf("%s: LevelsFrom = %v, %v, want %v", c.name, got, ok, c.levels)
		}
		if got, ok := impl.ReadLine(c.ticks, c.width); ok != c.read || !slices.Equal(got, c.bits) {
			t.Errorf("%s: ReadLine = %v, %v, want %v, %v", c.name, got, ok, c.bits, c.read)
		}
	}
}

func TestLongLines(t *testing.T) {
	doubles := append([]int{1}, append(slices.Repeat([]int{2}, 199), 1)...)
	fine := []struct {
		width int
		runs  []int
	}{
		{1, slices.Repeat([]int{1}, 400)},
		{1, slices.Repeat([]int{2}, 200)},
		{1, doubles},
		{40, slices.Repeat([]int{40}, 400)},
		{40, slices.Repeat([]int{80}, 200)},
		{40, slices.Repeat([]int{20}, 400)},
		{40, slices.Repeat([]int{50}, 320)},
		{32, slices.Repeat([]int{40}, 400)},
	}
	for _, c := range fine {
		for first := range 2 {
			ticks := ticksOfRuns(first, c.runs...)
			if got, ok := impl.LevelsFrom(ticks, c.width); !ok || len(got) == 0 {
				t.Errorf("LevelsFrom of %d ticks with the width %d = %v, %v", len(ticks), c.width, got, ok)
			}
			checkTicks(t, ticks, c.width)
		}
	}
	bad := []struct {
		width int
		runs  []int
	}{
		// More than 400 levels.
		{1, slices.Repeat([]int{1}, 401)},
		{1, slices.Repeat([]int{1}, 402)},
		{1, slices.Repeat([]int{2}, 201)},
		{1, append(slices.Repeat([]int{2}, 200), 1)},
		{1, append(slices.Repeat([]int{1}, 399), 2)},
		{1, append(doubles, 1, 1)},
		{40, slices.Repeat([]int{20}, 402)},
		// More than 16000 ticks, though there are not so many levels.
		{40, append(slices.Repeat([]int{50}, 319), 51)},
		{40, slices.Repeat([]int{50}, 322)},
		{40, append(slices.Repeat([]int{40}, 399), 41)},
		{40, slices.Repeat([]int{59}, 300)},
	}
	for _, c := range bad {
		for first := range 2 {
			checkNoLine(t, ticksOfRuns(first, c.runs...), c.width)
		}
	}
	for _, many := range []int{16001, 100000} {
		checkNoLine(t, make([]int, many), 40)
		checkNoLine(t, mixedNumbers(many, 2, many), 1)
	}
}

func TestNoLine(t *testing.T) {
	for _, width := range notWidths {
		for _, ticks := range [][]int{nil, {}, {0}, {0, 1}, ticksOfRuns(1, 4, 4), ticksOfRuns(0, 40, 40), ticksOfRuns(0, 41, 41), ticksOfRuns(1, 80, 80)} {
			checkNoLine(t, ticks, width)
		}
	}
	for _, x := range notBits {
		for _, ticks := range [][]int{{0, 1}, {1, 0, 0, 1}, {1, 0, 1, 0}, mixedNumbers(15, 2, 1)} {
			for at := range ticks {
				wrong := slices.Clone(ticks)
				wrong[at] = x
				checkNoLine(t, wrong, 1)
				checkNoLine(t, wrong, 2)
				checkNoLine(t, ticksByHand(wrong, []int{4}), 4)
			}
		}
		checkNoLine(t, []int{x}, 1)
		checkNoLine(t, slices.Repeat([]int{x}, 40), 40)
	}
}

// TestBitsComeBack is promise 8: bits come back from a line each of whose levels
// lasts at least three quarters of the width with which it is read, and less than
// five quarters.
func TestBitsComeBack(t *testing.T) {
	for width := 1; width <= 40; width++ {
		least, below := (3*width+3)/4, min((5*width+3)/4, 41)
		for _, many := range []int{0, 1, 2, 3, 8, 33, 199, 200} {
			for seed := range 10 {
				bits := mixedNumbers(many, 2, seed+many)
				widths := mixedNumbers(max(2*many, 1), below-least, seed+width)
				for i := range widths {
					widths[i] += least
				}
				for _, clock := range [][]int{{least}, {below - 1}, {width}, {least, below - 1}, {below - 1, least}, widths, widths[:1+many/2]} {
					ticks := impl.TicksOf(impl.LevelsOf(bits), clock)
					if got, ok := impl.ReadLine(ticks, width); !ok || !slices.Equal(got, bits) {
						t.Errorf("%v, sent with the widths %v and read with %d, is %v, %v", bits, clock, width, got, ok)
					}
				}
			}
		}
	}
}

// TestBitsComeBackFromAllClocks is promise 8 for few bits, and all clocks that are
// near enough.
func TestBitsComeBackFromAllClocks(t *testing.T) {
	for _, c := range []struct {
		width int
		near  []int
	}{{1, []int{1}}, {2, []int{2}}, {3, []int{3}}, {4, []int{3, 4}}, {5, []int{4, 5, 6}}, {7, []int{6, 7, 8}}, {8, []int{6, 7, 8, 9}}} {
		for _, bits := range listsOf([]int{0, 1}, 2) {
			for _, widths := range listsOf(c.near, 4)[1:] {
				ticks := impl.TicksOf(impl.LevelsOf(bits), widths)
				if got, ok := impl.ReadLine(ticks, c.width); !ok || !slices.Equal(got, bits) {
					t.Errorf("%v, sent with the widths %v and read with %d, is %v, %v", bits, widths, c.width, got, ok)
				}
			}
		}
	}
}

// TestClocksTooFarOff holds that bits with a run of two levels come back just from
// clocks that are near enough, and nothing else comes from the others.
func TestClocksTooFarOff(t *testing.T) {
	for width := 1; width <= 40; width++ {
		for clock := 1; clock <= 40; clock++ {
			near := 4*clock >= 3*width && 4*clock < 5*width
			for _, bits := range [][]int{{1, 0}, {0, 1}, {1, 1, 0}, {0, 0, 1, 1, 0, 1}} {
				got, ok := impl.ReadLine(impl.TicksOf(impl.LevelsOf(bits), []int{clock}), width)
				if ok != near || near && !slices.Equal(got, bits) || !near && len(got) != 0 {
					t.Errorf("%v, sent with the width %d and read with %d, is %v, %v", bits, clock, width, got, ok)
				}
			}
		}
	}
}

func TestReadLineIsItsParts(t *testing.T) {
	for _, ticks := range listsOf([]int{0, 1}, 10) {
		for width := 1; width <= 4; width++ {
			levels, fine := impl.LevelsFrom(ticks, width)
			want, right := impl.BitsFrom(levels)
			if got, ok := impl.ReadLine(ticks, width); ok != (fine && right) || !slices.Equal(got, want) {
				t.Errorf("ReadLine(%v, %d) = %v, %v, want %v, %v", ticks, width, got, ok, want, fine && right)
			}
		}
	}
}

func TestLevelsShareNoMemory(t *testing.T) {
	for many := 1; many <= 20; many++ {
		// bits, their levels, widths and ticks, one behind the other, and numbers behind them.
		bits := mixedNumbers(many, 2, many)
		levels := levelsByHand(bits)
		widths := slices.Repeat([]int{3}, 2*many)
		ticks := ticksByHand(levels, widths)
		whole := slices.Concat(bits, levels, widths, ticks, mixedNumbers(30, 2, many))
		before := slices.Clone(whole)
		part := func(from int, list []int) []int { return whole[from : from+len(list)] }
		ofBits, ofLevels := part(0, bits), part(many, levels)
		ofWidths, ofTicks := part(3*many, widths), part(5*many, ticks)
		calls := map[string]func() []int{
			"LevelsOf": func() []int { return impl.LevelsOf(ofBits) },
			"TicksOf":  func() []int { return impl.TicksOf(ofLevels, ofWidths) },
			"RunsOf":   func() []int { return impl.RunsOf(ofTicks) },
			"BitsFrom": func() []int {
				got, _ := impl.BitsFrom(ofLevels)
				return got
			},
			"LevelsFrom": func() []int {
				got, _ := impl.LevelsFrom(ofTicks, 3)
				return got
			},
			"ReadLine": func() []int {
				got, _ := impl.ReadLine(ofTicks, 3)
				return got
			},
		}
		for name, call := range calls {
			first, second := call(), call()
			if len(first) == 0 || !slices.Equal(first, second) {
				t.Errorf("%s returns %v, and then %v", name, first, second)
			}
			checkApart(t, name, whole, before, first, second)
		}
	}
}
