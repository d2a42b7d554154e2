package tests

import (
	"math"
	"slices"
	"testing"

	"loop.example/wholenet/impl"
)

// notVlans are numbers of which none is a network.
var notVlans = append([]int{0, 10, 11, 15}, strangeNumbers...)

// notTags are numbers of which none is a tag, and none a network.
var notTags = append([]int{10, 11, 15}, strangeNumbers...)

// notKinds are numbers of which none is the kind of a port.
var notKinds = append([]int{0, 3, 4}, strangeNumbers...)

// askedVlans are all tags, so 0 and all networks, and numbers that are neither.
var askedVlans = append([]int{0, 1, 2, 3, 4, 5, 6, 7, 8, 9}, notTags...)

// plain returns a plain port.
func plain(own int) impl.VPort { return impl.VPort{Kind: 1, Own: own} }

// trunk returns a trunk.
func trunk(own int, carry ...int) impl.VPort { return impl.VPort{Kind: 2, Own: own, Carry: carry} }

// portsAmong returns all ports that are of some networks, ascending, and of no others.
func portsAmong(vlans ...int) []impl.VPort {
	var list []impl.VPort
	for at, own := range vlans {
		list = append(list, plain(own))
		others := slices.Delete(slices.Clone(vlans), at, at+1)
		for set := range 1 << len(others) {
			var carry []int
			for i, vlan := range others {
				if set>>i%2 == 1 {
					carry = append(carry, vlan)
				}
			}
			list = append(list, trunk(own, carry...))
		}
	}
	return list
}

// goodVPorts returns all ports.
func goodVPorts() []impl.VPort { return portsAmong(1, 2, 3, 4, 5, 6, 7, 8, 9) }

// mixedVPorts returns so many ports.
func mixedVPorts(many, seed int) []impl.VPort {
	good := goodVPorts()
	list := make([]impl.VPort, many)
	for i, at := range mixedNumbers(many, 30000, seed) {
		list[i] = good[at%len(good)]
	}
	return list
}

// fewVPorts returns so many ports, most of which are of few networks.
func fewVPorts(many, seed int) []impl.VPort {
	list := make([]impl.VPort, many)
	for i, n := range mixedNumbers(many, 30000, seed) {
		own, other := n%9+1, n/9%9+1
		list[i] = plain(own)
		if own != other && n/81%3 > 0 {
			list[i] = trunk(own, other)
		}
	}
	return list
}

// badVPorts returns ports that there can't be, each of which is a port when one
// thing about it is changed.
func badVPorts() []impl.VPort {
	bad := []impl.VPort{{}, {Kind: 1}, {Kind: 2}, {Own: 1}, {Kind: 2, Carry: []int{1}}}
	for _, kind := range notKinds {
		bad = append(bad, impl.VPort{Kind: kind, Own: 2}, impl.VPort{Kind: kind, Own: 2, Carry: []int{1, 3}})
	}
	for _, own := range notVlans {
		bad = append(bad, plain(own), trunk(own), trunk(own, 1, 9), trunk(own, 1, 2, 3, 4, 5, 6, 7, 8))
	}
	for own := 1; own <= 9; own++ {
		for vlan := 1; vlan <= 9; vlan++ {
			bad = append(bad, impl.VPort{Kind: 1, Own: own, Carry: []int{vlan}})
		}
	}
	bad = append(bad, impl.VPort{Kind: 1, Own: 1, Carry: []int{2, 3}}, impl.VPort{Kind: 1, Own: 9, Carry: []int{1, 2, 3, 4, 5, 6, 7, 8}})
	return append(bad, badTrunks()...)
}

// badTrunks returns trunks that there can't be, for what they carry.
func badTrunks() []impl.VPort {
	var bad []impl.VPort
	for _, carry := range [][]int{nil, {5}, {4, 6}, {1, 9}, {1, 2, 3, 5, 6, 7, 8, 9}} {
		for own := 1; own <= 9; own++ {
			if slices.Contains(carry, own) {
				bad = append(bad, trunk(own, carry...))
				continue
			}
			for _, x := range append([]int{own}, notVlans...) {
				at, _ := slices.BinarySearch(carry, x)
				bad = append(bad, trunk(own, slices.Insert(slices.Clone(carry), at, x)...))
			}
			for at, vlan := range carry {
				bad = append(bad, trunk(own, slices.Insert(slices.Clone(carry), at, vlan)...))
			}
			if len(carry) > 1 {
				swapped := slices.Clone(carry)
				last := len(carry) - 1
				swapped[last-1], swapped[last] = swapped[last], swapped[last-1]
				bad = append(bad, trunk(own, swapped...), trunk(own, append(slices.Clone(carry), carry[0])...))
			}
		}
	}
	return append(bad, trunk(1, make([]int, 9)...), trunk(1, slices.Repeat([]int{2}, 1000)...), trunk(1, 1, 2, 3, 4, 5, 6, 7, 8, 9), trunk(9, 8, 7, 6, 5, 4, 3, 2, 1))
}

// badVBridges returns ports that are not those of a bridge, for how many they are,
// or for one of them.
func badVBridges() [][]impl.VPort {
	bad := [][]impl.VPort{nil, {}}
	for _, many := range []int{7, 8, 15, 1000} {
		bad = append(bad, fewVPorts(many, many), slices.Repeat([]impl.VPort{plain(1)}, many), slices.Repeat([]impl.VPort{trunk(2, 1)}, many))
	}
	for i, p := range badVPorts() {
		for _, many := range []int{1, 3, 6} {
			for at := range many {
				ports := fewVPorts(many, i+at)
				ports[at] = p
				bad = append(bad, ports)
			}
		}
	}
	return bad
}

// tagsAt returns the tags that frames have at a port, by their networks, as the
// test reckons them.
func tagsAt(p impl.VPort) map[int]int {
	tags := map[int]int{p.Own: 0}
	for _, vlan := range p.Carry {
		tags[vlan] = vlan
	}
	return tags
}

// tagTo returns the tag with which a frame of a network goes out at a port, as the
// test reckons it.
func tagTo(p impl.VPort, vlan int) int {
	if tag, ok := tagsAt(p)[vlan]; ok {
		return tag
	}
	return -1
}

// vlanOf returns the network of a frame that comes in at a port, as the test
// reckons it.
func vlanOf(p impl.VPort, tag int) int {
	for vlan, own := range tagsAt(p) {
		if own == tag {
			return vlan
		}
	}
	return -1
}

// portsOnByHand returns the ports of a network, as the test reckons them.
func portsOnByHand(ports []impl.VPort, vlan int) []int {
	var on []int
	for i, p := range ports {
		if vlan == p.Own || slices.Contains(p.Carry, vlan) {
			on = append(on, i)
		}
	}
	return on
}

// floodByHand returns where a frame goes, as the test reckons it.
func floodByHand(ports []impl.VPort, at, tag int) []impl.VOut {
	var outs []impl.VOut
	vlan := vlanOf(ports[at], tag)
	for _, port := range portsOnByHand(ports, vlan) {
		if port != at {
			outs = append(outs, impl.VOut{Port: port, Tag: tagTo(ports[port], vlan)})
		}
	}
	return outs
}

// meetByHand returns the networks of which two ports are, as the test reckons them.
func meetByHand(a, b impl.VPort) []int {
	var meet []int
	for vlan := 1; vlan <= 9; vlan++ {
		if len(portsOnByHand([]impl.VPort{a, b}, vlan)) == 2 {
			meet = append(meet, vlan)
		}
	}
	return meet
}

// apartByHand returns the other ports that share no network with one, as the test
// reckons them.
func apartByHand(ports []impl.VPort, at int) []int {
	var apart []int
	for port := range ports {
		if len(meetByHand(ports[at], ports[port])) == 0 {
			apart = append(apart, port)
		}
	}
	return apart
}

// checkVPort holds what a port does against the reckoning.
func checkVPort(t *testing.T, p impl.VPort) {
	t.Helper()
	for _, n := range askedVlans {
		if got, want := impl.VlanIn(p, n), vlanOf(p, n); got != want {
			t.Fatalf("VlanIn(%v, %d) = %d, want %d", p, n, got, want)
		}
		if got, want := impl.TagOut(p, n), tagTo(p, n); got != want {
			t.Fatalf("TagOut(%v, %d) = %d, want %d", p, n, got, want)
		}
	}
}

// checkVBridge holds what a bridge does with frames of some tags and networks
// against the reckoning.
func checkVBridge(t *testing.T, ports []impl.VPort, asked ...int) {
	t.Helper()
	if !impl.VPortsValid(ports) {
		t.Fatalf("VPortsValid(%v) = false", ports)
	}
	for _, n := range asked {
		if got, want := impl.PortsOn(ports, n), portsOnByHand(ports, n); !slices.Equal(got, want) {
			t.Fatalf("PortsOn(%v, %d) = %v, want %v", ports, n, got, want)
		}
	}
	for a := range ports {
		for _, tag := range asked {
			if got, want := impl.FloodVlan(ports, a, tag), floodByHand(ports, a, tag); !slices.Equal(got, want) {
				t.Fatalf("FloodVlan(%v, %d, %d) = %v, want %v", ports, a, tag, got, want)
			}
		}
		for b := range ports {
			if got, want := impl.MeetIn(ports, a, b), meetByHand(ports[a], ports[b]); !slices.Equal(got, want) {
				t.Fatalf("MeetIn(%v, %d, %d) = %v, want %v", ports, a, b, got, want)
			}
		}
		if got, want := impl.ApartFrom(ports, a), apartByHand(ports, a); !slices.Equal(got, want) {
			t.Fatalf("ApartFrom(%v, %d) = %v, want %v", ports, a, got, want)
		}
	}
}

func TestVlanConstants(t *testing.T) {
	if got, want := []int{impl.PortPlain, impl.PortTrunk, impl.MaxVlan}, []int{1, 2, 9}; !slices.Equal(got, want) {
		t.Errorf("the constants are %v, want %v", got, want)
	}
}

func TestVPortsValid(t *testing.T) {
	for _, p := range goodVPorts() {
		for many := range 8 {
			ports := slices.Repeat([]impl.VPort{p}, many)
			if got, want := impl.VPortsValid(ports), many >= 1 && many <= 6; got != want {
				t.Fatalf("VPortsValid(%v) = %v", ports, got)
			}
		}
		p.Carry = append([]int{}, p.Carry...) // Empty is as good as nil.
		if !impl.VPortsValid([]impl.VPort{p}) {
			t.Fatalf("VPortsValid of %v alone = false", p)
		}
	}
	for _, ports := range badVBridges() {
		if impl.VPortsValid(ports) {
			t.Fatalf("VPortsValid(%v) = true", ports)
		}
	}
}

func TestVlanIn(t *testing.T) {
	cases := []struct {
		name string
		p    impl.VPort
		tag  int
		want int
	}{
		{"a plain port without a tag", plain(2), 0, 2},
		{"a plain port with its own network as a tag", plain(2), 2, -1},
		{"a plain port with another tag", plain(2), 3, -1},
		{"the greatest network", plain(9), 0, 9},
		{"a trunk without a tag", trunk(1, 2, 3), 0, 1},
		{"a trunk with the first tag that it carries", trunk(1, 2, 3), 2, 2},
		{"a trunk with the last tag that it carries", trunk(1, 2, 3), 3, 3},
		{"a trunk with a tag between those that it carries", trunk(1, 2, 4), 3, -1},
		{"a trunk with its own network as a tag", trunk(1, 2, 3), 1, -1},
		{"a trunk with a tag that it does not carry", trunk(1, 2, 3), 4, -1},
		{"a trunk that carries none, without a tag", trunk(4), 0, 4},
		{"a trunk that carries none, with its own network as a tag", trunk(4), 4, -1},
		{"a trunk that carries none, with another tag", trunk(4), 5, -1},
		{"a tag that is none", trunk(1, 2, 3), -1, -1},
		{"a tag past the greatest one", trunk(1, 2, 9), 10, -1},
	}
	for _, c := range cases {
		if got := impl.VlanIn(c.p, c.tag); got != c.want {
			t.Errorf("%s: VlanIn(%v, %d) = %d, want %d", c.name, c.p, c.tag, got, c.want)
		}
	}
}

func TestTagOut(t *testing.T) {
	cases := []struct {
		name string
		p    impl.VPort
		vlan int
		want int
	}{
		{"a plain port and its own network", plain(2), 2, 0},
		{"a plain port and another network", plain(2), 3, -1},
		{"a trunk and its own network", trunk(5, 2, 9), 5, 0},
		{"a trunk and the first network that it carries", trunk(5, 2, 9), 2, 2},
		{"a trunk and the last network that it carries", trunk(5, 2, 9), 9, 9},
		{"a trunk and a network that it does not carry", trunk(5, 2, 9), 3, -1},
		{"a trunk that carries none, and its own network", trunk(4), 4, 0},
		{"a trunk that carries none, and another network", trunk(4), 5, -1},
		{"no network", plain(1), 0, -1},
		{"no network at a trunk", trunk(1, 2), 0, -1},
		{"below the networks", trunk(1, 2), -1, -1},
		{"past the networks", trunk(1, 9), 10, -1},
	}
	for _, c := range cases {
		if got := impl.TagOut(c.p, c.vlan); got != c.want {
			t.Errorf("%s: TagOut(%v, %d) = %d, want %d", c.name, c.p, c.vlan, got, c.want)
		}
	}
}

// TestAllVPorts looks at every port with every network and tag, and at numbers that
// are none.
func TestAllVPorts(t *testing.T) {
	good := goodVPorts()
	if len(good) != 9+9*256 {
		t.Fatalf("there are %d ports", len(good))
	}
	for _, p := range good {
		checkVPort(t, p)
	}
}

func TestNoVPort(t *testing.T) {
	for _, p := range badVPorts() {
		for _, n := range append([]int{p.Own}, askedVlans...) {
			if got := impl.VlanIn(p, n); got != -1 {
				t.Fatalf("VlanIn(%v, %d) = %d", p, n, got)
			}
			if got := impl.TagOut(p, n); got != -1 {
				t.Fatalf("TagOut(%v, %d) = %d", p, n, got)
			}
		}
	}
}

func TestPortsOn(t *testing.T) {
	ports := []impl.VPort{plain(2), trunk(1, 2, 3), plain(3), trunk(2), trunk(3, 1, 2), plain(9)}
	for vlan, want := range [][]int{nil, {1, 4}, {0, 1, 3, 4}, {1, 2, 4}, nil, nil, nil, nil, nil, {5}, nil} {
		if got := impl.PortsOn(ports, vlan); !slices.Equal(got, want) {
			t.Errorf("PortsOn(%d) = %v, want %v", vlan, got, want)
		}
	}
}

func TestFloodVlan(t *testing.T) {
	ports := []impl.VPort{plain(2), trunk(1, 2, 3), plain(3), trunk(2), trunk(3, 1, 2), plain(9)}
	cases := []struct {
		name    string
		at, tag int
		want    []impl.VOut
	}{
		{"a plain port", 0, 0, []impl.VOut{{Port: 1, Tag: 2}, {Port: 3}, {Port: 4, Tag: 2}}},
		{"its own network with a tag", 0, 2, nil},
		{"a tag at a plain port", 0, 3, nil},
		{"a trunk without a tag", 1, 0, []impl.VOut{{Port: 4, Tag: 1}}},
		{"a trunk's own network with a tag", 1, 1, nil},
		{"a tag that a trunk carries", 1, 2, []impl.VOut{{Port: 0}, {Port: 3}, {Port: 4, Tag: 2}}},
		{"a tag that is another trunk's own network", 1, 3, []impl.VOut{{Port: 2}, {Port: 4}}},
		{"a tag that a trunk does not carry", 1, 9, nil},
		{"a trunk that carries none", 3, 0, []impl.VOut{{Port: 0}, {Port: 1, Tag: 2}, {Port: 4, Tag: 2}}},
		{"a trunk that carries none, with its own network as a tag", 3, 2, nil},
		{"a trunk that carries none, with another tag", 3, 1, nil},
		{"the last port but one", 4, 0, []impl.VOut{{Port: 1, Tag: 3}, {Port: 2}}},
		{"nobody else in the network", 5, 0, nil},
		{"a tag that is none", 1, -1, nil},
		{"a tag past the greatest one", 1, 10, nil},
	}
	for _, c := range cases {
		if got := impl.FloodVlan(ports, c.at, c.tag); !slices.Equal(got, c.want) {
			t.Errorf("%s: FloodVlan(%d, %d) = %v, want %v", c.name, c.at, c.tag, got, c.want)
		}
	}
	// The document's example.
	two := []impl.VPort{plain(2), trunk(1, 2)}
	if got := impl.FloodVlan(two, 0, 0); !slices.Equal(got, []impl.VOut{{Port: 1, Tag: 2}}) {
		t.Errorf("FloodVlan(%v, 0, 0) = %v", two, got)
	}
	if got := impl.FloodVlan(two[:1], 0, 0); len(got) != 0 {
		t.Errorf("FloodVlan of one port = %v", got)
	}
}

func TestMeetIn(t *testing.T) {
	ports := []impl.VPort{plain(2), trunk(1, 2, 3), plain(3), trunk(2), trunk(3, 1, 2), plain(9)}
	cases := []struct {
		name string
		a, b int
		want []int
	}{
		{"a plain port and itself", 0, 0, []int{2}},
		{"a trunk and itself", 1, 1, []int{1, 2, 3}},
		{"a trunk that carries none and itself", 3, 3, []int{2}},
		{"what one carries is the other one's own network", 0, 1, []int{2}},
		{"different networks", 0, 2, nil},
		{"a plain port and a trunk that carries none", 0, 3, []int{2}},
		{"two trunks with all networks", 1, 4, []int{1, 2, 3}},
		{"a trunk that carries none and one that carries its own", 3, 4, []int{2}},
		{"nothing", 4, 5, nil},
	}
	for _, c := range cases {
		if got := impl.MeetIn(ports, c.a, c.b); !slices.Equal(got, c.want) {
			t.Errorf("%s: MeetIn(%d, %d) = %v, want %v", c.name, c.a, c.b, got, c.want)
		}
		if got := impl.MeetIn(ports, c.b, c.a); !slices.Equal(got, c.want) {
			t.Errorf("%s: MeetIn(%d, %d) = %v, want %v", c.name, c.b, c.a, got, c.want)
		}
	}
}

func TestApartFrom(t *testing.T) {
	ports := []impl.VPort{plain(2), trunk(1, 2, 3), plain(3), trunk(2), trunk(3, 1, 2), plain(9)}
	for at, want := range [][]int{{2, 5}, {5}, {0, 3, 5}, {2, 5}, {5}, {0, 1, 2, 3, 4}} {
		if got := impl.ApartFrom(ports, at); !slices.Equal(got, want) {
			t.Errorf("ApartFrom(%d) = %v, want %v", at, got, want)
		}
	}
	// Two ports can be apart though each of them shares a network with a third one.
	for at, want := range [][]int{{2}, nil, {0}} {
		if got := impl.ApartFrom([]impl.VPort{plain(1), trunk(1, 9), trunk(9)}, at); !slices.Equal(got, want) {
			t.Errorf("ApartFrom(%d) = %v, want %v", at, got, want)
		}
	}
	for _, p := range goodVPorts() {
		if got := impl.ApartFrom([]impl.VPort{p}, 0); len(got) != 0 {
			t.Errorf("ApartFrom of %v alone = %v", p, got)
		}
	}
}

// TestAllVBridges looks at all bridges of up to three ports of three networks.
func TestAllVBridges(t *testing.T) {
	good := portsAmong(1, 4, 9)
	for _, a := range good {
		checkVBridge(t, []impl.VPort{a}, askedVlans...)
		for _, b := range good {
			checkVBridge(t, []impl.VPort{a, b}, askedVlans...)
			for _, c := range good {
				checkVBridge(t, []impl.VPort{a, b, c}, -1, 0, 1, 4, 5, 9)
			}
		}
	}
}

func TestMixedVBridges(t *testing.T) {
	for many := 1; many <= 6; many++ {
		for seed := range 60 {
			checkVBridge(t, mixedVPorts(many, seed), askedVlans...)
			checkVBridge(t, fewVPorts(many, seed), askedVlans...)
		}
	}
}

func TestNoVBridge(t *testing.T) {
	for _, ports := range badVBridges() {
		for at := range 3 {
			if got := impl.ApartFrom(ports, at); len(got) != 0 {
				t.Fatalf("ApartFrom(%v, %d) = %v", ports, at, got)
			}
			if got := impl.MeetIn(ports, at, at); len(got) != 0 {
				t.Fatalf("MeetIn(%v, %d, %d) = %v", ports, at, at, got)
			}
			if got := impl.MeetIn(ports, 0, at); len(got) != 0 {
				t.Fatalf("MeetIn(%v, 0, %d) = %v", ports, at, got)
			}
			for tag := range 10 {
				if got := impl.FloodVlan(ports, at, tag); len(got) != 0 {
					t.Fatalf("FloodVlan(%v, %d, %d) = %v", ports, at, tag, got)
				}
			}
		}
		for vlan := range 10 {
			if got := impl.PortsOn(ports, vlan); len(got) != 0 {
				t.Fatalf("PortsOn(%v, %d) = %v", ports, vlan, got)
			}
		}
	}
}

func TestNoSuchVPort(t *testing.T) {
	for many := 1; many <= 6; many++ {
		// All of these share a network, so a wrong one of them would be told to meet.
		ports := append(slices.Repeat([]impl.VPort{plain(1)}, many-1), trunk(1, 2))
		for _, at := range notPorts(many) {
			for tag := range 10 {
				if got := impl.FloodVlan(ports, at, tag); len(got) != 0 {
					t.Errorf("FloodVlan(%v, %d, %d) = %v", ports, at, tag, got)
				}
			}
			for port := range ports {
				if got := impl.MeetIn(ports, at, port); len(got) != 0 {
					t.Errorf("MeetIn(%v, %d, %d) = %v", ports, at, port, got)
				}
				if got := impl.MeetIn(ports, port, at); len(got) != 0 {
					t.Errorf("MeetIn(%v, %d, %d) = %v", ports, port, at, got)
				}
			}
			if got := impl.MeetIn(ports, at, at); len(got) != 0 {
				t.Errorf("MeetIn(%v, %d, %d) = %v", ports, at, at, got)
			}
			for _, list := range [][]impl.VPort{ports, fewVPorts(many, many)} {
				if got := impl.ApartFrom(list, at); len(got) != 0 {
					t.Errorf("ApartFrom(%v, %d) = %v", list, at, got)
				}
			}
		}
	}
}

// checkFlood looks whether a frame that comes in at a port goes to all other ports
// of its network, to each once, and is in its network there too.
func checkFlood(t *testing.T, ports []impl.VPort, at, tag int) {
	t.Helper()
	outs := impl.FloodVlan(ports, at, tag)
	vlan := impl.VlanIn(ports[at], tag)
	if vlan == -1 {
		if len(outs) != 0 {
			t.Fatalf("of %v, a frame with the tag %d comes in at %d in no network, and goes to %v", ports, tag, at, outs)
		}
		return
	}
	reached := []int{at}
	for _, out := range outs {
		if out.Port == at || impl.VlanIn(ports[out.Port], out.Tag) != vlan || impl.TagOut(ports[out.Port], vlan) != out.Tag {
			t.Fatalf("of %v, a frame of the network %d that comes in at %d goes out as %v", ports, vlan, at, out)
		}
		if slices.Contains(impl.ApartFrom(ports, at), out.Port) || !slices.Contains(impl.MeetIn(ports, at, out.Port), vlan) {
			t.Fatalf("of %v, a frame of the network %d goes from %d to %d, which are apart", ports, vlan, at, out.Port)
		}
		reached = append(reached, out.Port)
	}
	slices.Sort(reached)
	if on := impl.PortsOn(ports, vlan); !slices.Equal(reached, on) {
		t.Fatalf("of %v, a frame of the network %d that comes in at %d is then at %v, want %v", ports, vlan, at, reached, on)
	}
}

// TestNoFrameLeavesItsNetwork is promise 10, at one bridge.
func TestNoFrameLeavesItsNetwork(t *testing.T) {
	for many := 1; many <= 6; many++ {
		for seed := range 100 {
			for _, ports := range [][]impl.VPort{mixedVPorts(many, seed), fewVPorts(many, seed)} {
				for at := range ports {
					for _, tag := range askedVlans {
						checkFlood(t, ports, at, tag)
					}
				}
			}
		}
	}
}

// TestNoFrameLeavesItsNetworkOverBridges is promise 10 along a line of bridges: the
// last port of each is joined to the first one of the next, which is a port like it.
func TestNoFrameLeavesItsNetworkOverBridges(t *testing.T) {
	const bridges, last = 5, 5
	for seed := range 60 {
		var line [][]impl.VPort
		for i := range bridges {
			ports := fewVPorts(last+1, 10*seed+i)
			ports[last] = mixedVPorts(1, 10*seed+i)[0]
			if i > 0 {
				ports[0] = line[i-1][last]
			}
			line = append(line, ports)
		}
		for at := range last {
			vlan, tag := line[0][at].Own, 0
			for i, from := 0, at; i < bridges && tag != -1; i, from = i+1, 0 {
				next := -1
				for _, out := range impl.FloodVlan(line[i], from, tag) {
					if got := vlanOf(line[i][out.Port], out.Tag); got != vlan {
						t.Fatalf("along %v, a frame of the network %d comes to the bridge %d, and goes out as %v", line, vlan, i, out)
					}
					if out.Port == last {
						next = out.Tag
					}
				}
				if want := tagTo(line[i][last], vlan); next != want {
					t.Fatalf("along %v, a frame of the network %d leaves the bridge %d with %d, want %d", line, vlan, i, next, want)
				}
				tag = next
			}
		}
	}
}

// sameVPorts reports whether two lists have the same ports.
func sameVPorts(a, b []impl.VPort) bool {
	return slices.EqualFunc(a, b, func(p, q impl.VPort) bool {
		return p.Kind == q.Kind && p.Own == q.Own && slices.Equal(p.Carry, q.Carry)
	})
}

func TestVlansShareNoMemory(t *testing.T) {
	whole := []int{1, 2, 3, 4, 5, 6, 7, 8, 9, 9, 8, 7}
	ports := []impl.VPort{trunk(9, whole[:3]...), trunk(8, whole[1:4]...), plain(2), plain(7), trunk(2, whole[2:5]...), trunk(1, 9), plain(3), {Kind: 77, Own: math.MaxInt}}
	before, portsBefore := slices.Clone(whole), slices.Clone(ports)
	list := ports[:6]
	calls := map[string]func() [][]int{
		"PortsOn": func() [][]int {
			return [][]int{impl.PortsOn(list, 3), impl.PortsOn(list, 2)}
		},
		"MeetIn": func() [][]int {
			return [][]int{impl.MeetIn(list, 0, 0), impl.MeetIn(list, 0, 1), impl.MeetIn(list, 1, 4)}
		},
		"ApartFrom": func() [][]int { return [][]int{impl.ApartFrom(list, 3), impl.ApartFrom(list, 5)} },
		"the others": func() [][]int {
			impl.VPortsValid(list)
			impl.VPortsValid(ports)
			impl.FloodVlan(list, 0, 2)
			for _, p := range ports {
				impl.VlanIn(p, 2)
				impl.TagOut(p, 2)
			}
			return nil
		},
	}
	for name, call := range calls {
		checkApart(t, name, whole, before, append(call(), call()...)...)
		if !sameVPorts(ports, portsBefore) {
			t.Fatalf("%s changes its ports, or what lies behind them: %v, want %v", name, ports, portsBefore)
		}
	}
}

func TestFloodsShareNoMemory(t *testing.T) {
	ports := []impl.VPort{plain(2), trunk(1, 2), trunk(2), plain(2), trunk(9, 2, 8)}
	outs, again := impl.FloodVlan(ports, 0, 0), impl.FloodVlan(ports, 0, 0)
	want := slices.Clone(again)
	for i := range outs[:cap(outs)] {
		outs[:cap(outs)][i] = impl.VOut{Port: -9, Tag: -9}
	}
	if len(want) != 4 || !slices.Equal(again, want) || !slices.Equal(impl.FloodVlan(ports, 0, 0), want) {
		t.Errorf("FloodVlan shares memory of its results: %v, want %v", again, want)
	}
}
