package impl

// Kinds of packets of links, and limits.
const (
	LinkData  = 1
	LinkBack  = 2
	MaxWindow = 8
	MaxRounds = 400
)

// LinkRun is what came of a link: data in order, rounds, packets sent, and whether all was told to have come.
type LinkRun struct {
	Got    [][]byte
	Rounds int
	Sent   int
	Done   bool
}

// PackLink returns the packet of a link.
func PackLink(kind int, seq int, b []byte) ([]byte, bool) { return nil, false }

// UnpackLink returns what a packet of a link has.
func UnpackLink(b []byte) (int, int, []byte, bool) { return 0, 0, nil, false }

// RunLink returns what comes of data that is sent over two wires.
func RunLink(window int, list [][]byte, there []int, back []int, rounds int) (LinkRun, bool) {
	return LinkRun{}, false
}

// LinkRounds returns how many rounds a link needs, or -1.
func LinkRounds(window int, list [][]byte, there []int, back []int) int { return 0 }

// LinkBound returns how many rounds are enough, or -1.
func LinkBound(window int, many int, there []int, back []int) int { return 0 }
