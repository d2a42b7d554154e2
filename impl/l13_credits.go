package impl

import "slices"

// Limits of credits.
const (
	MaxRoom  = 40
	MaxDelay = 12
	MaxDrive = 3000
)

// Limits of frames to send, and of the numbers that tell which slots are open.
const (
	maxCreditFrames = 500
	maxDrain        = 100
)

// CreditRun is what came of frames that are sent by credits: how many were sent and taken, how many waited at most, how many slots there were, and whether all were taken.
type CreditRun struct {
	Sent  int
	Taken int
	Most  int
	Slots int
	Done  bool
}

// slotRing is what is on its way, frames or credits: a ring of the last slots, as
// many as the way takes, that tells of each whether one left in it. What arrives in
// a slot left one round ago, so that both have the same place.
type slotRing []bool

// arrives reports whether one arrives in a slot. What leaves in that slot must not
// have been put in yet.
func (r slotRing) arrives(slot int) bool { return r[slot%len(r)] }

// leave puts in whether one leaves in a slot.
func (r slotRing) leave(slot int, leaves bool) { r[slot%len(r)] = leaves }

// creditSender sends frames: how many credits it has, how many frames it has left,
// and how many it has sent.
type creditSender struct {
	credits int
	left    int
	sent    int
}

// regain looks at whether a credit has come back.
func (s *creditSender) regain(came bool) {
	if came {
		s.credits++
	}
}

// send sends a frame, if it may, and reports whether it did.
func (s *creditSender) send() bool {
	if s.credits == 0 || s.left == 0 {
		return false
	}
	s.credits--
	s.left--
	s.sent++
	return true
}

// creditReceiver takes frames: how many wait, how many did so at most, and how many
// it has taken.
type creditReceiver struct {
	waiting int
	most    int
	taken   int
}

// hear looks at whether a frame has come.
func (r *creditReceiver) hear(came bool) {
	if came {
		r.waiting++
		r.most = max(r.most, r.waiting)
	}
}

// take takes a frame, if it may, and reports whether it did.
func (r *creditReceiver) take(open bool) bool {
	if !open || r.waiting == 0 {
		return false
	}
	r.waiting--
	r.taken++
	return true
}

// creditDrive is a sender and a receiver, what is on its way between them, and how
// many slots there were.
type creditDrive struct {
	sender   creditSender
	receiver creditReceiver
	there    slotRing
	back     slotRing
	slots    int
}

// creditDriveOf returns a sender and a receiver ahead of the first slot.
func creditDriveOf(room int, delay int, many int) creditDrive {
	return creditDrive{
		sender: creditSender{credits: room, left: many},
		there:  make(slotRing, delay),
		back:   make(slotRing, delay),
	}
}

// slot lets them have a slot.
func (d *creditDrive) slot(open bool) {
	now := d.slots
	d.sender.regain(d.back.arrives(now))
	d.receiver.hear(d.there.arrives(now))
	d.back.leave(now, d.receiver.take(open))
	d.there.leave(now, d.sender.send())
	d.slots++
}

// run returns what came of so many frames.
func (d *creditDrive) run(many int) CreditRun {
	taken := d.receiver.taken
	return CreditRun{Sent: d.sender.sent, Taken: taken, Most: d.receiver.most, Slots: d.slots, Done: taken == many}
}

// RunCredits returns what comes of frames that are sent by credits.
func RunCredits(room int, delay int, many int, drain []int, slots int) (CreditRun, bool) {
	if !isRoom(room) || !isDelay(delay) || !areCreditFrames(many) || !isDrain(drain) || !isDriveSlot(slots) {
		return CreditRun{}, false
	}
	d := creditDriveOf(room, delay, many)
	for d.receiver.taken < many && d.slots < slots {
		d.slot(isOpen(drain, d.slots))
	}
	return d.run(many), true
}

// CreditSlots returns how many slots frames need that are taken at once, or -1.
func CreditSlots(room int, delay int, many int) int {
	run, ok := RunCredits(room, delay, many, []int{1}, MaxDrive)
	if !ok || !run.Done {
		return -1
	}
	return run.Slots
}

// RoomFor returns how much room lets no slot be lost, or -1.
func RoomFor(delay int) int {
	if !isDelay(delay) {
		return -1
	}
	return 2 * delay
}

// OpenSlots returns how many of some slots are open, or -1.
func OpenSlots(drain []int, from int, n int) int {
	if !isDrain(drain) || !isDriveSlot(from) || !isDriveSlot(n) {
		return -1
	}
	open := 0
	for i := range n {
		if isOpen(drain, from+i) {
			open++
		}
	}
	return open
}

// isRoom reports whether a receiver can have room for so many frames.
func isRoom(n int) bool { return n >= 1 && n <= MaxRoom }

// isDelay reports whether a frame or a credit can take so many slots to come.
func isDelay(n int) bool { return n >= 1 && n <= MaxDelay }

// areCreditFrames reports whether so many frames can be sent by credits.
func areCreditFrames(n int) bool { return n >= 0 && n <= maxCreditFrames }

// isDriveSlot reports whether a number is a slot, or a number of slots, of a run.
func isDriveSlot(n int) bool { return n >= 0 && n <= MaxDrive }

// isDrain reports whether numbers tell in which slots a frame may be taken.
func isDrain(list []int) bool {
	return len(list) <= maxDrain && areBits(list) && slices.Contains(list, 1)
}

// isOpen reports whether a frame may be taken in a slot.
func isOpen(drain []int, slot int) bool { return drain[slot%len(drain)] == 1 }
