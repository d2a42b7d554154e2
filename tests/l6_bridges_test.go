package tests

import (
	"slices"
	"testing"

	"loop.example/wholenet/impl"
)

// notPortCounts are numbers of ports that no bridge has.
var notPortCounts = append([]int{0, 7, 8, 15, 16}, strangeNumbers...)

// notStations are numbers of which none is a station.
var notStations = append([]int{16, 17, 31}, strangeNumbers...)

// notPorts returns numbers of which none is a port of a bridge with so many.
func notPorts(ports int) []int { return append([]int{ports, ports + 1, 6, 15}, strangeNumbers...) }

// mixedTable returns a table that has no short period.
func mixedTable(ports, seed int) []int {
	table := mixedNumbers(15, ports+1, seed)
	for i := range table {
		table[i]--
	}
	return table
}

// goodTables returns tables of a bridge with so many ports.
func goodTables(ports int) [][]int {
	good := [][]int{slices.Repeat([]int{-1}, 15)}
	for port := range ports {
		good = append(good, slices.Repeat([]int{port}, 15))
		for at := range 15 {
			one := slices.Repeat([]int{-1}, 15)
			one[at] = port
			good = append(good, one)
		}
	}
	for seed := range 20 {
		good = append(good, mixedTable(ports, seed))
	}
	return good
}

// badTables returns numbers that are no table of a bridge with so many ports, for
// one of them or for how many they are.
func badTables(ports int) [][]int {
	bad := [][]int{nil, {-1}}
	for _, many := range []int{1, 14, 16, 17, 30, 150} {
		bad = append(bad, make([]int, many), slices.Repeat([]int{-1}, many))
	}
	for at := range 15 {
		for _, x := range notPorts(ports) {
			if x != -1 {
				table := mixedTable(ports, at)
				table[at] = x
				bad = append(bad, table)
			}
		}
	}
	return bad
}

// mixedHops returns so many hops among the first stations, and for all of them.
func mixedHops(many, ports, stations, seed int) []impl.Hop {
	from, to, port := mixedNumbers(many, stations, seed), mixedNumbers(many, stations+1, seed+1000), mixedNumbers(many, ports, seed+2000)
	list := make([]impl.Hop, many)
	for i := range list {
		list[i] = impl.Hop{From: from[i], To: to[i], Port: port[i]}
		if to[i] == stations {
			list[i].To = 15
		}
	}
	return list
}

// badHops returns hops that cannot come to a bridge with so many ports.
func badHops(ports int) []impl.Hop {
	var bad []impl.Hop
	for _, x := range append([]int{15}, notStations...) {
		bad = append(bad, impl.Hop{From: x, To: 1, Port: 0})
	}
	for _, x := range notStations {
		bad = append(bad, impl.Hop{From: 1, To: x, Port: 0})
	}
	for _, x := range notPorts(ports) {
		bad = append(bad, impl.Hop{From: 1, To: 15, Port: x})
	}
	return bad
}

// seenAt returns the port at which the last frame from a station came, or -1.
func seenAt(list []impl.Hop, station int) int {
	for i := len(list) - 1; i >= 0; i-- {
		if list[i].From == station {
			return list[i].Port
		}
	}
	return -1
}

// tableBehind returns the table behind frames, as the test reckons it.
func tableBehind(list []impl.Hop) []int {
	table := make([]int, 15)
	for station := range table {
		table[station] = seenAt(list, station)
	}
	return table
}

// goesTo returns the ports to which a frame goes that came at a port, as the test
// reckons it: known is the port of the station it is for, or -1.
func goesTo(ports, known, port int) []int {
	if known == port {
		return nil
	}
	if known >= 0 {
		return []int{known}
	}
	var outs []int
	for out := 0; out < port; out++ {
		outs = append(outs, out)
	}
	for out := port + 1; out < ports; out++ {
		outs = append(outs, out)
	}
	return outs
}

// portIn returns what a table has for a station, -1 for all of them.
func portIn(table []int, station int) int {
	if station == 15 {
		return -1
	}
	return table[station]
}

// sameLists reports whether two lists have the same numbers, list by list.
func sameLists(a, b [][]int) bool { return slices.EqualFunc(a, b, slices.Equal) }

// checkHops looks whether a bridge does with frames what the test reckons.
func checkHops(t *testing.T, ports int, list []impl.Hop) {
	t.Helper()
	var outs [][]int
	for i, h := range list {
		outs = append(outs, goesTo(ports, seenAt(list[:i+1], h.To), h.Port))
	}
	table := tableBehind(list)
	gotTable, gotOuts, ok := impl.RunBridge(ports, list)
	if !ok || !slices.Equal(gotTable, table) || !sameLists(gotOuts, outs) {
		t.Fatalf("RunBridge(%d, %v) = %v, %v, %v, want %v, %v", ports, list, gotTable, gotOuts, ok, table, outs)
	}
}

func TestBridgeConstants(t *testing.T) {
	if got, want := []int{impl.MaxPorts, impl.AllStations, impl.MaxHops}, []int{6, 15, 60}; !slices.Equal(got, want) {
		t.Errorf("the constants are %v, want %v", got, want)
	}
}

func TestFreshTable(t *testing.T) {
	want := []int{-1, -1, -1, -1, -1, -1, -1, -1, -1, -1, -1, -1, -1, -1, -1}
	for range 2 {
		got := impl.FreshTable()
		if !slices.Equal(got, want) {
			t.Errorf("FreshTable = %v", got)
		}
		for i := range got {
			got[i] = 0 // The next one is fresh all the same.
		}
	}
}

func TestTableValid(t *testing.T) {
	for ports := 1; ports <= 6; ports++ {
		for _, table := range goodTables(ports) {
			if !impl.TableValid(table, ports) {
				t.Errorf("TableValid(%v, %d) = false", table, ports)
			}
			if got, want := impl.TableValid(table, ports-1), ports > 1 && slices.Max(table) < ports-1; got != want {
				t.Errorf("TableValid(%v, %d) = %v", table, ports-1, got)
			}
		}
		for _, table := range badTables(ports) {
			if impl.TableValid(table, ports) {
				t.Errorf("TableValid(%v, %d) = true", table, ports)
			}
		}
	}
	for _, ports := range notPortCounts {
		for _, table := range goodTables(1) {
			if impl.TableValid(table, ports) {
				t.Errorf("TableValid(%v, %d) = true", table, ports)
			}
		}
	}
}

func TestLearnPort(t *testing.T) {
	for ports := 1; ports <= 6; ports++ {
		for _, table := range goodTables(ports) {
			for from := range 15 {
				for port := range ports {
					want := slices.Clone(table)
					want[from] = port
					if got, ok := impl.LearnPort(table, ports, from, port); !ok || !slices.Equal(got, want) {
						t.Fatalf("LearnPort(%v, %d, %d, %d) = %v, %v", table, ports, from, port, got, ok)
					}
				}
			}
		}
	}
}

func TestPortsFor(t *testing.T) {
	for ports := 1; ports <= 6; ports++ {
		for _, table := range goodTables(ports) {
			for to := range 16 {
				for port := range ports {
					want := goesTo(ports, portIn(table, to), port)
					if got := impl.PortsFor(table, ports, to, port); !slices.Equal(got, want) {
						t.Fatalf("PortsFor(%v, %d, %d, %d) = %v, want %v", table, ports, to, port, got, want)
					}
				}
			}
		}
	}
}

func TestBridgeStep(t *testing.T) {
	for ports := 1; ports <= 6; ports++ {
		for _, table := range goodTables(ports) {
			for from := range 15 {
				for _, h := range []impl.Hop{{From: from, To: from}, {From: from, To: 15}, {From: from, To: (from + 1) % 15}, {From: from, To: 14 - from}} {
					for h.Port = range ports {
						learnt := slices.Clone(table)
						learnt[from] = h.Port
						want := goesTo(ports, portIn(learnt, h.To), h.Port)
						if got, outs, ok := impl.BridgeStep(table, ports, h); !ok || !slices.Equal(got, learnt) || !slices.Equal(outs, want) {
							t.Fatalf("BridgeStep(%v, %d, %v) = %v, %v, %v, want %v, %v", table, ports, h, got, outs, ok, learnt, want)
						}
					}
				}
			}
		}
	}
}

func TestKnownStations(t *testing.T) {
	for ports := 1; ports <= 6; ports++ {
		for _, table := range goodTables(ports) {
			var want []int
			for station, port := range table {
				if port >= 0 {
					want = append(want, station)
				}
			}
			for range 3 {
				if got := impl.KnownStations(table, ports); !slices.Equal(got, want) {
					t.Fatalf("KnownStations(%v, %d) = %v, want %v", table, ports, got, want)
				}
			}
		}
	}
}

func TestRunBridge(t *testing.T) {
	cases := []struct {
		name  string
		ports int
		list  []impl.Hop
		want  [][]int
	}{
		{"no frame", 4, nil, nil},
		{"the document's example", 3, []impl.Hop{{From: 1, To: 2, Port: 0}, {From: 2, To: 1, Port: 1}}, [][]int{{1, 2}, {0}}},
		{"one port", 1, []impl.Hop{{From: 1, To: 2, Port: 0}, {From: 2, To: 1, Port: 0}, {From: 1, To: 15, Port: 0}}, [][]int{nil, nil, nil}},
		{"an unknown station", 4, []impl.Hop{{From: 0, To: 14, Port: 0}, {From: 0, To: 14, Port: 2}, {From: 0, To: 14, Port: 3}}, [][]int{{1, 2, 3}, {0, 1, 3}, {0, 1, 2}}},
		// A station that has moved is found at its new port alone, from its first frame there on.
		{"a station that has moved", 4, []impl.Hop{
			{From: 1, To: 15, Port: 0}, {From: 2, To: 1, Port: 3}, {From: 1, To: 2, Port: 2}, {From: 2, To: 1, Port: 3}, {From: 3, To: 1, Port: 0}, {From: 4, To: 1, Port: 2},
		}, [][]int{{1, 2, 3}, {0}, {3}, {2}, {2}, nil}},
		{"a station that moves back", 3, []impl.Hop{
			{From: 5, To: 6, Port: 1}, {From: 5, To: 6, Port: 2}, {From: 5, To: 6, Port: 1}, {From: 6, To: 5, Port: 0},
		}, [][]int{{0, 2}, {0, 1}, {0, 2}, {1}}},
		// It has moved to the port of the one that it sends to, and back.
		{"a station that moves to the other one", 2, []impl.Hop{
			{From: 1, To: 15, Port: 0}, {From: 2, To: 1, Port: 1}, {From: 2, To: 1, Port: 0}, {From: 2, To: 1, Port: 1},
		}, [][]int{{1}, {0}, nil, {0}}},
		{"stations at one port", 3, []impl.Hop{{From: 7, To: 8, Port: 2}, {From: 8, To: 7, Port: 2}, {From: 7, To: 8, Port: 2}}, [][]int{{0, 1}, nil, nil}},
		// A bridge learns first: a station is at the port from which it sends to itself.
		{"a station that sends to itself", 3, []impl.Hop{{From: 0, To: 0, Port: 1}, {From: 0, To: 0, Port: 2}, {From: 14, To: 14, Port: 0}}, [][]int{nil, nil, nil}},
		// All stations are never known, and whoever sends to all is learned.
		{"frames for all", 3, []impl.Hop{
			{From: 3, To: 15, Port: 0}, {From: 14, To: 15, Port: 1}, {From: 3, To: 15, Port: 2}, {From: 0, To: 3, Port: 1}, {From: 0, To: 14, Port: 0},
		}, [][]int{{1, 2}, {0, 2}, {0, 1}, {2}, {1}}},
		// What was asked for is not learned: a station is known when it has sent.
		{"a station that never sends", 3, []impl.Hop{{From: 1, To: 9, Port: 0}, {From: 2, To: 9, Port: 1}, {From: 1, To: 9, Port: 0}}, [][]int{{1, 2}, {0, 2}, {1, 2}}},
	}
	for _, c := range cases {
		table, outs, ok := impl.RunBridge(c.ports, c.list)
		if !ok || !sameLists(outs, c.want) || !slices.Equal(table, tableBehind(c.list)) {
			t.Errorf("%s: RunBridge(%d, %v) = %v, %v, %v, want %v", c.name, c.ports, c.list, table, outs, ok, c.want)
		}
		checkHops(t, c.ports, c.list)
	}
}

// TestRunBridgeAllHops gives a bridge all lists of few frames.
func TestRunBridgeAllHops(t *testing.T) {
	for ports := 1; ports <= 3; ports++ {
		var hops []impl.Hop
		for _, from := range []int{0, 14} {
			for _, to := range []int{0, 14, 15} {
				for port := range ports {
					hops = append(hops, impl.Hop{From: from, To: to, Port: port})
				}
			}
		}
		checkHops(t, ports, nil)
		for _, a := range hops {
			checkHops(t, ports, []impl.Hop{a})
			for _, b := range hops {
				checkHops(t, ports, []impl.Hop{a, b})
				for _, c := range hops {
					checkHops(t, ports, []impl.Hop{a, b, c})
				}
			}
		}
	}
}

func TestRunBridgeMixedHops(t *testing.T) {
	for ports := 1; ports <= 6; ports++ {
		for many := range 61 {
			for _, stations := range []int{1, 2, 4, 15} {
				checkHops(t, ports, mixedHops(many, ports, stations, many+stations))
			}
		}
	}
}

// TestRunBridgeIsItsSteps holds frames at once against the same frames step by step.
func TestRunBridgeIsItsSteps(t *testing.T) {
	for ports := 1; ports <= 6; ports++ {
		list := mixedHops(60, ports, 6, ports)
		table := impl.FreshTable()
		for i, h := range list {
			learnt, ok := impl.LearnPort(table, ports, h.From, h.Port)
			want := impl.PortsFor(learnt, ports, h.To, h.Port)
			next, outs, fine := impl.BridgeStep(table, ports, h)
			if !ok || !fine || !slices.Equal(next, learnt) || !slices.Equal(outs, want) {
				t.Errorf("BridgeStep(%v, %d, %v) = %v, %v, %v", table, ports, h, next, outs, fine)
			}
			table = next
			whole, lists, ok := impl.RunBridge(ports, list[:i+1])
			if !ok || !slices.Equal(whole, table) || !slices.Equal(lists[i], outs) {
				t.Errorf("RunBridge(%d, %v) = %v, %v, %v, want %v and %v last", ports, list[:i+1], whole, lists, ok, table, outs)
			}
		}
	}
}

// checkNoBridge looks whether numbers are taken for the table of a bridge.
func checkNoBridge(t *testing.T, table []int, ports int) {
	t.Helper()
	if got, ok := impl.LearnPort(table, ports, 1, 0); ok || len(got) != 0 {
		t.Errorf("LearnPort(%v, %d, 1, 0) = %v, %v", table, ports, got, ok)
	}
	for _, to := range []int{0, 1, 14, 15} {
		if got := impl.PortsFor(table, ports, to, 0); len(got) != 0 {
			t.Errorf("PortsFor(%v, %d, %d, 0) = %v", table, ports, to, got)
		}
		h := impl.Hop{From: 1, To: to}
		if got, outs, ok := impl.BridgeStep(table, ports, h); ok || len(got) != 0 || len(outs) != 0 {
			t.Errorf("BridgeStep(%v, %d, %v) = %v, %v, %v", table, ports, h, got, outs, ok)
		}
	}
	if got := impl.KnownStations(table, ports); len(got) != 0 {
		t.Errorf("KnownStations(%v, %d) = %v", table, ports, got)
	}
}

func TestNoBridge(t *testing.T) {
	for ports := 1; ports <= 6; ports++ {
		for _, table := range badTables(ports) {
			checkNoBridge(t, table, ports)
		}
	}
	for _, ports := range notPortCounts {
		for _, table := range goodTables(1) {
			checkNoBridge(t, table, ports)
		}
		for _, list := range [][]impl.Hop{nil, {}, {{From: 1, To: 2}}, mixedHops(61, 1, 15, 1)} {
			if table, outs, ok := impl.RunBridge(ports, list); ok || len(table) != 0 || len(outs) != 0 {
				t.Errorf("RunBridge(%d, %v) = %v, %v, %v", ports, list, table, outs, ok)
			}
		}
	}
}

func TestNoStationOrPort(t *testing.T) {
	for ports := 1; ports <= 6; ports++ {
		for _, table := range goodTables(ports) {
			for _, from := range append([]int{15}, notStations...) {
				if got, ok := impl.LearnPort(table, ports, from, 0); ok || len(got) != 0 {
					t.Errorf("LearnPort(%v, %d, %d, 0) = %v, %v", table, ports, from, got, ok)
				}
			}
			for _, to := range notStations {
				if got := impl.PortsFor(table, ports, to, 0); len(got) != 0 {
					t.Errorf("PortsFor(%v, %d, %d, 0) = %v", table, ports, to, got)
				}
			}
			for _, port := range notPorts(ports) {
				if got, ok := impl.LearnPort(table, ports, 0, port); ok || len(got) != 0 {
					t.Errorf("LearnPort(%v, %d, 0, %d) = %v, %v", table, ports, port, got, ok)
				}
				for to := range 16 {
					if got := impl.PortsFor(table, ports, to, port); len(got) != 0 {
						t.Errorf("PortsFor(%v, %d, %d, %d) = %v", table, ports, to, port, got)
					}
				}
			}
		}
	}
}

func TestNoHop(t *testing.T) {
	for ports := 1; ports <= 6; ports++ {
		for _, h := range badHops(ports) {
			for _, table := range goodTables(ports) {
				if got, outs, ok := impl.BridgeStep(table, ports, h); ok || len(got) != 0 || len(outs) != 0 {
					t.Errorf("BridgeStep(%v, %d, %v) = %v, %v, %v", table, ports, h, got, outs, ok)
				}
			}
			for _, many := range []int{1, 3, 60} {
				for _, at := range []int{0, many / 2, many - 1} {
					list := mixedHops(many, ports, 5, at)
					list[at] = h
					if table, outs, ok := impl.RunBridge(ports, list); ok || len(table) != 0 || len(outs) != 0 {
						t.Errorf("RunBridge(%d, %v) = %v, %v, %v", ports, list, table, outs, ok)
					}
				}
			}
		}
	}
}

func TestTooManyHops(t *testing.T) {
	for ports := 1; ports <= 6; ports++ {
		checkHops(t, ports, mixedHops(60, ports, 15, 3))
		for _, many := range []int{61, 62, 120, 1000} {
			if table, outs, ok := impl.RunBridge(ports, mixedHops(many, ports, 15, 3)); ok || len(table) != 0 || len(outs) != 0 {
				t.Errorf("RunBridge(%d) of %d hops = %v, %v, %v", ports, many, table, outs, ok)
			}
		}
	}
}

// TestNoFrameGoesBack is promise 6: whatever a bridge knows, and whoever a frame is
// from and for, it goes to no port twice, and never to the one at which it came.
func TestNoFrameGoesBack(t *testing.T) {
	check := func(ports int, h impl.Hop, outs []int) {
		t.Helper()
		for i, out := range outs {
			if out == h.Port || out < 0 || out >= ports || i > 0 && out <= outs[i-1] {
				t.Errorf("of %d ports, %v goes to %v", ports, h, outs)
			}
		}
	}
	for ports := 1; ports <= 6; ports++ {
		for _, table := range goodTables(ports) {
			for station := range 15 {
				for to := range 16 {
					for port := range ports {
						h := impl.Hop{From: station, To: to, Port: port}
						check(ports, h, impl.PortsFor(table, ports, to, port))
						_, outs, _ := impl.BridgeStep(table, ports, h)
						check(ports, h, outs)
					}
				}
			}
		}
		for seed := range 60 {
			list := mixedHops(60, ports, seed%15+1, seed)
			_, lists, _ := impl.RunBridge(ports, list)
			for i, outs := range lists {
				check(ports, list[i], outs)
			}
		}
	}
}

// TestFramesComeToStations sets stations behind ports: a frame comes to whom it is
// for, and once both have sent, to no port but theirs.
func TestFramesComeToStations(t *testing.T) {
	for ports := 1; ports <= 6; ports++ {
		for seed := range 20 {
			at := mixedNumbers(15, ports, seed)
			list, sent := mixedHops(60, ports, 15, seed), map[int]bool{}
			for i := range list {
				list[i].Port = at[list[i].From]
			}
			_, lists, ok := impl.RunBridge(ports, list)
			if !ok {
				t.Fatalf("RunBridge(%d, %v) = false", ports, list)
			}
			for i, h := range list {
				sent[h.From] = true
				if h.To != 15 && slices.Contains(lists[i], at[h.To]) != (at[h.To] != h.Port) {
					t.Errorf("%v goes to %v, and its station is at %d", h, lists[i], at[h.To])
				}
				if sent[h.To] && len(lists[i]) > 1 {
					t.Errorf("%v goes to %v, though its station is known", h, lists[i])
				}
				if h.To == 15 && len(lists[i]) != ports-1 {
					t.Errorf("%v goes to %v of %d ports", h, lists[i], ports)
				}
			}
		}
	}
}

func TestBridgesShareNoMemory(t *testing.T) {
	for ports := 1; ports <= 6; ports++ {
		whole := slices.Concat(mixedTable(ports, 4), mixedNumbers(40, 9, 5))
		table, before := whole[:15], slices.Clone(whole)
		calls := map[string]func() [][]int{
			"LearnPort": func() [][]int {
				got, _ := impl.LearnPort(table, ports, 3, ports-1)
				return [][]int{got}
			},
			"PortsFor":      func() [][]int { return [][]int{impl.PortsFor(table, ports, 15, 0)} },
			"KnownStations": func() [][]int { return [][]int{impl.KnownStations(table, ports)} },
			"FreshTable":    func() [][]int { return [][]int{impl.FreshTable()} },
			"BridgeStep": func() [][]int {
				got, outs, _ := impl.BridgeStep(table, ports, impl.Hop{From: 2, To: 15, Port: 0})
				return [][]int{got, outs}
			},
			"TableValid": func() [][]int {
				impl.TableValid(table, ports)
				return nil
			},
		}
		for name, call := range calls {
			checkApart(t, name, whole, before, append(call(), call()...)...)
		}
	}
}

func TestRunBridgeSharesNoMemory(t *testing.T) {
	for ports := 1; ports <= 6; ports++ {
		whole := mixedHops(30, ports, 4, 1)
		list, before := whole[:20], slices.Clone(whole)
		table, outs, _ := impl.RunBridge(ports, list)
		again, outsAgain, _ := impl.RunBridge(ports, list)
		checkApart(t, "RunBridge", nil, nil, slices.Concat([][]int{table, again}, outs, outsAgain)...)
		if !slices.Equal(whole, before) {
			t.Errorf("RunBridge changes its hops, or what lies behind them: %v, want %v", whole, before)
		}
	}
}
