package impl

// Kinds of packets of links, and limits.
const (
	LinkData  = 1
	LinkBack  = 2
	MaxWindow = 8
	MaxRounds = 400
)

// linkSeqs is how many sequence numbers there are: those of two windows, so that
// data that are sent again never have the numbers of those to come.
const linkSeqs = 16

// maxLinkData is how many bytes go into a packet behind its first byte.
const maxLinkData = MaxData - checkBytes - 1

// LinkRun is what came of a link: data in order, rounds, packets sent, and whether all was told to have come.
type LinkRun struct {
	Got    [][]byte
	Rounds int
	Sent   int
	Done   bool
}

// linkSender sends a list of data, and knows how many of them have come.
type linkSender struct {
	window int
	list   [][]byte
	known  int
}

// packets returns what is sent in a round.
func (s *linkSender) packets() [][]byte {
	var out [][]byte
	for i := s.known; i < min(s.known+s.window, len(s.list)); i++ {
		packet, _ := PackLink(LinkData, i%linkSeqs, s.list[i])
		out = append(out, packet)
	}
	return out
}

// hear looks at what arrives from the receiver.
func (s *linkSender) hear(b []byte) {
	kind, seq, _, ok := UnpackLink(b)
	if !ok || kind != LinkBack {
		return
	}
	if more := (seq + linkSeqs - s.known%linkSeqs) % linkSeqs; more <= s.window {
		s.known += more
	}
}

// done reports whether all data are known to have come.
func (s *linkSender) done() bool { return s.known >= len(s.list) }

// linkReceiver has got some data.
type linkReceiver struct {
	got [][]byte
}

// take looks at what arrives from the sender.
func (r *linkReceiver) take(b []byte) {
	kind, seq, data, ok := UnpackLink(b)
	if ok && kind == LinkData && seq == r.seq() {
		r.got = append(r.got, data)
	}
}

// answer returns the packet that tells how many data have come.
func (r *linkReceiver) answer() []byte {
	packet, _ := PackLink(LinkBack, r.seq(), nil)
	return packet
}

// seq returns the sequence number of the next data.
func (r *linkReceiver) seq() int { return len(r.got) % linkSeqs }

// linkWire is a wire that has carried some packets.
type linkWire struct {
	fates []int
	sent  int
}

// pass returns what arrives of packets. The channel has room for all of it, so
// that nobody waits for the other end.
func (w *linkWire) pass(packets ...[]byte) <-chan []byte {
	arrived := PassWire(FatesBehind(w.fates, w.sent), packets)
	w.sent += len(packets)
	out := make(chan []byte, len(arrived))
	for _, b := range arrived {
		out <- b
	}
	close(out)
	return out
}

// PackLink returns the packet of a link.
func PackLink(kind int, seq int, b []byte) ([]byte, bool) {
	if !isPacket(kind, seq, b) {
		return nil, false
	}
	head := byte(linkSeqs*kind + seq)
	return AddCrc(append([]byte{head}, b...))
}

// UnpackLink returns what a packet of a link has.
func UnpackLink(b []byte) (int, int, []byte, bool) {
	packet, ok := CutCrc(b)
	if !ok || len(packet) == 0 {
		return 0, 0, nil, false
	}
	head, data := int(packet[0]), packet[1:]
	kind, seq := head/linkSeqs, head%linkSeqs
	if !isPacket(kind, seq, data) {
		return 0, 0, nil, false
	}
	return kind, seq, data, true
}

// RunLink returns what comes of data that is sent over two wires.
func RunLink(window int, list [][]byte, there []int, back []int, rounds int) (LinkRun, bool) {
	if !isLink(window, len(list), there, back) || !areLinkData(list) || rounds < 0 || rounds > MaxRounds {
		return LinkRun{}, false
	}
	sender, receiver := linkSender{window: window, list: list}, linkReceiver{}
	wireThere, wireBack := linkWire{fates: there}, linkWire{fates: back}
	past := 0
	for past < rounds && !sender.done() {
		for b := range wireThere.pass(sender.packets()...) {
			receiver.take(b)
		}
		for b := range wireBack.pass(receiver.answer()) {
			sender.hear(b)
		}
		past++
	}
	sent := wireThere.sent + wireBack.sent
	return LinkRun{Got: receiver.got, Rounds: past, Sent: sent, Done: sender.done()}, true
}

// LinkRounds returns how many rounds a link needs, or -1.
func LinkRounds(window int, list [][]byte, there []int, back []int) int {
	run, ok := RunLink(window, list, there, back, MaxRounds)
	if !ok || !run.Done {
		return -1
	}
	return run.Rounds
}

// LinkBound returns how many rounds are enough, or -1.
func LinkBound(window int, many int, there []int, back []int) int {
	if !isLink(window, many, there, back) {
		return -1
	}
	return max(len(there), len(back)) + (many+window-1)/window
}

// isPacket reports whether these are a kind, a sequence number and the data of a packet.
func isPacket(kind int, seq int, b []byte) bool {
	if seq < 0 || seq >= linkSeqs {
		return false
	}
	switch kind {
	case LinkData:
		return len(b) <= maxLinkData
	case LinkBack:
		return len(b) == 0
	}
	return false
}

// isLink reports whether these are a window, how many data are sent, and the fates of two wires.
func isLink(window int, many int, there []int, back []int) bool {
	return window >= 1 && window <= MaxWindow && many >= 0 && many <= MaxSent && FatesValid(there) && FatesValid(back)
}

// areLinkData reports whether each of a list is data that a packet can have.
func areLinkData(list [][]byte) bool {
	for _, b := range list {
		if len(b) > maxLinkData {
			return false
		}
	}
	return true
}
