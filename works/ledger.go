package works

import (
	"strings"

	"cracknel/api"
	"cracknel/mirror"
)

const places = 3

// A ledger is the mirror that was opened last. Its disks are those of the works.
type ledger struct {
	mirror *mirror.Mirror
	isOpen bool // not so after an Open that failed
}

func newLedger() ledger {
	disks := make([]*mirror.Disk, places)
	for i := range disks {
		disks[i] = mirror.NewDisk()
	}
	// Disks that are new, up and not armed refuse nothing.
	mirror.Format(disks, 0)
	m, _ := mirror.Open(disks)
	return ledger{m, true}
}

func (l *ledger) clone() ledger { return ledger{l.mirror.Clone(), l.isOpen} }

func (w *Works) post(words []string) (string, api.Errno) {
	if !w.ledger.isOpen {
		return "", api.ErrState
	}
	if e := w.ledger.mirror.Post(strings.Join(words, " ")); e != api.OK {
		return "", e
	}
	return number("entry", len(w.ledger.mirror.Log())-1), api.OK
}

func (w *Works) showLog([]string) (string, api.Errno) {
	var out strings.Builder
	for _, entry := range w.ledger.mirror.Log() {
		if entry == "" {
			out.WriteString(text("entry"))
		} else {
			out.WriteString(text("entry", entry))
		}
	}
	return out.String(), api.OK
}

func isPlace(n int) bool { return n >= 0 && n < places }

// onDisk does something with the disk in a place.
func (w *Works) onDisk(place int, do func(d *mirror.Disk)) (string, api.Errno) {
	if !isPlace(place) {
		return "", api.ErrArg
	}
	do(w.ledger.mirror.Disks()[place])
	return "", api.OK
}

func (w *Works) armDisk(words []string) (string, api.Errno) {
	list := numbers(words)
	return w.onDisk(list[0], func(d *mirror.Disk) { d.Arm(list[1]) })
}

func (w *Works) restartDisk(words []string) (string, api.Errno) {
	list := numbers(words)
	return w.onDisk(list[0], func(d *mirror.Disk) { d.Restart(list[1]) })
}

func (w *Works) loseDisk(words []string) (string, api.Errno) {
	return w.onDisk(numbers(words)[0], (*mirror.Disk).Lose)
}

// open opens the disks again. If that fails, the mirror stays, as it knows what the
// log and the disks are.
func (w *Works) open([]string) (string, api.Errno) {
	m, e := mirror.Open(w.ledger.mirror.Disks())
	w.ledger.isOpen = e == api.OK
	if w.ledger.isOpen {
		w.ledger.mirror = m
	}
	return "", e
}

func (w *Works) join(words []string) (string, api.Errno) {
	place := numbers(words)[0]
	switch {
	case !isPlace(place):
		return "", api.ErrArg
	case !w.ledger.isOpen:
		return "", api.ErrState
	}
	return "", w.ledger.mirror.Join(place, mirror.NewDisk())
}

func (w *Works) showUses([]string) (string, api.Errno) {
	var list []string
	for _, isUsed := range w.ledger.mirror.Uses() {
		if isUsed {
			list = append(list, "yes")
		} else {
			list = append(list, "no")
		}
	}
	return text("uses", list...), api.OK
}
