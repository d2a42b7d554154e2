package impl

// Limits of credits.
const (
	MaxRoom  = 40
	MaxDelay = 12
	MaxDrive = 3000
)

// CreditRun is what came of frames that are sent by credits: how many were sent and taken, how many waited at most, how many slots there were, and whether all were taken.
type CreditRun struct {
	Sent  int
	Taken int
	Most  int
	Slots int
	Done  bool
}

// RunCredits returns what comes of frames that are sent by credits.
func RunCredits(room int, delay int, many int, drain []int, slots int) (CreditRun, bool) {
	return CreditRun{}, false
}

// CreditSlots returns how many slots frames need that are taken at once, or -1.
func CreditSlots(room int, delay int, many int) int { return 0 }

// RoomFor returns how much room lets no slot be lost, or -1.
func RoomFor(delay int) int { return 0 }

// OpenSlots returns how many of some slots are open, or -1.
func OpenSlots(drain []int, from int, n int) int { return 0 }
