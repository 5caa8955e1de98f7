package mirror

import (
	"slices"

	"cracknel/api"
)

// Disk keeps bytes, of which the first ones are safe: of the others any number may
// be gone once it has been down.
type Disk struct {
	self   *Disk // the disk itself, so that a copy of the struct is no disk
	bytes  []byte
	safe   int // how many bytes are safe
	isDown bool
	isLost bool
	left   int // it goes down in the last of so many acts; 0: it is not armed
}

// NewDisk returns a disk without bytes.
func NewDisk() *Disk {
	d := &Disk{}
	d.self = d
	return d
}

// isMade reports whether NewDisk or Clone returned the disk.
func (d *Disk) isMade() bool { return d != nil && d.self == d }

// refusal returns why the disk refuses every act, or OK.
func (d *Disk) refusal() api.Errno {
	switch {
	case !d.isMade():
		return api.ErrState
	case d.isLost:
		return api.ErrLost
	case d.isDown:
		return api.ErrDown
	}
	return api.OK
}

// act counts an act, and returns ErrDown if the disk goes down in it.
func (d *Disk) act() api.Errno {
	if d.left == 0 {
		return api.OK
	}
	d.left--
	if d.left > 0 {
		return api.OK
	}
	d.isDown = true
	return api.ErrDown
}

// Append appends bytes, which are not safe.
func (d *Disk) Append(b []byte) api.Errno {
	if e := d.refusal(); e != api.OK {
		return e
	}
	if len(b) > d.room() {
		return api.ErrFull
	}
	d.bytes = append(d.bytes, b...)
	return d.act()
}

// Cut leaves the first n bytes.
func (d *Disk) Cut(n int) api.Errno {
	if e := d.refusal(); e != api.OK {
		return e
	}
	if n < 0 || n > len(d.bytes) {
		return api.ErrArg
	}
	e := d.act()
	if e == api.OK {
		d.bytes = d.bytes[:n]
		d.safe = min(d.safe, n)
	}
	return e
}

// Sync makes all bytes safe.
func (d *Disk) Sync() api.Errno {
	if e := d.refusal(); e != api.OK {
		return e
	}
	e := d.act()
	if e == api.OK {
		d.safe = len(d.bytes)
	}
	return e
}

// write appends bytes and makes them safe.
func (d *Disk) write(b []byte) api.Errno {
	if e := d.Append(b); e != api.OK {
		return e
	}
	return d.Sync()
}

// Arm lets the disk go down in the act with this number, from the next one on,
// which has the number 1. Below 1 it lets the disk not go down any more.
func (d *Disk) Arm(act int) {
	if d.refusal() == api.OK {
		d.left = max(act, 0)
	}
}

// Restart brings the disk up, with the first keep of the bytes that are not safe.
func (d *Disk) Restart(keep int) {
	if !d.isMade() || d.isLost {
		return
	}
	rest := len(d.bytes) - d.safe
	d.bytes = d.bytes[:d.safe+min(max(keep, 0), rest)]
	d.safe = len(d.bytes)
	d.isDown = false
	d.left = 0
}

// Lose loses the disk for good.
func (d *Disk) Lose() {
	if d.isMade() {
		*d = Disk{self: d, isLost: true}
	}
}

// Bytes returns a copy of all bytes.
func (d *Disk) Bytes() []byte {
	if !d.isMade() {
		return nil
	}
	return slices.Clone(d.bytes)
}

// size returns the number of bytes.
func (d *Disk) size() int {
	if !d.isMade() {
		return 0
	}
	return len(d.bytes)
}

// room returns how many bytes can be appended.
func (d *Disk) room() int { return api.MaxDisk - d.size() }

// Down reports whether the disk is down.
func (d *Disk) Down() bool { return d.isMade() && d.isDown }

// Lost reports whether the disk is lost.
func (d *Disk) Lost() bool { return d.isMade() && d.isLost }

// Clone returns a disk in the same state.
func (d *Disk) Clone() *Disk {
	if !d.isMade() {
		return nil
	}
	out := *d
	out.self = &out
	out.bytes = slices.Clone(d.bytes)
	return &out
}
