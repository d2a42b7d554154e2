package impl

// Limits of fabrics.
const (
	MaxWide  = 5
	MaxWorms = 12
	MaxWay   = 30
	MaxMoves = 2000
)

// WormRun is what came of worms in a fabric: which have arrived, how many steps there were, and whether those that are left wait for each other.
type WormRun struct {
	Done  []bool
	Steps int
	Stuck bool
}

// RouteXY returns the way from one node to another, first along and then down.
func RouteXY(w int, h int, a int, b int) []int { return nil }

// RouteYX returns the way from one node to another, first down and then along.
func RouteYX(w int, h int, a int, b int) []int { return nil }

// WayValid reports whether nodes are a way.
func WayValid(w int, h int, way []int) bool { return false }

// WireOf returns the number of the wire from a node to a neighbour, or -1.
func WireOf(w int, h int, a int, b int) int { return 0 }

// WaitsOf returns which wires are held while others are waited for.
func WaitsOf(w int, h int, ways [][]int) [][]int { return nil }

// HasRound reports whether such waiting can go round.
func HasRound(w int, h int, ways [][]int) bool { return false }

// RunWorms returns what comes of worms that go along ways.
func RunWorms(w int, h int, ways [][]int) (WormRun, bool) { return WormRun{}, false }
