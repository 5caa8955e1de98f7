package mirror

import (
	"slices"

	"cracknel/api"
)

const (
	places = 3
	enough = 2 // any two sets of so many disks have one in common
)

// A quorum is disks by their places: those that are used.
type quorum map[int]*Disk

// each does something on each disk, drops the disks that it returns an error for,
// and reports whether enough are left. It does the same on a disk whatever happens
// on the others, so that their order does not matter.
func (q quorum) each(do func(place int, d *Disk) api.Errno) bool {
	for place, d := range q {
		if do(place, d) != api.OK {
			delete(q, place)
		}
	}
	return len(q) >= enough
}

// An opening is a quorum that a log is opened on.
type opening struct {
	quorum
	contents [places]*content // what was on them, or nil for those that are not available
}

// newOpening reads the disks that are available.
func newOpening(disks []*Disk) *opening {
	o := &opening{quorum: quorum{}}
	for place, d := range disks {
		c, isFormatted := read(d.bytes)
		if d.refusal() == api.OK && isFormatted {
			o.quorum[place] = d
			o.contents[place] = c
		}
	}
	return o
}

// agree reports whether something is the same for every two disks.
func (o *opening) agree(isSame func(a, b *content) bool) bool {
	for i := range o.quorum {
		for j := range o.quorum {
			if !isSame(o.contents[i], o.contents[j]) {
				return false
			}
		}
	}
	return true
}

func haveSameID(a, b *content) bool { return a.id == b.id }

func haveSameLog(a, b *content) bool {
	return a.epoch == b.epoch && slices.Equal(a.entries, b.entries)
}

// settle makes the log the same on all disks, and returns what they have then, or
// false if not enough of them are left.
//
// The log of the latest epoch prevails, and in one epoch each log is a beginning of
// the longer ones. If a disk is missing, it may have an entry that the log is opened
// without, and that must not come back with it: so the log is adopted in a new
// epoch. Enough disks know of that before the first one adopts anything in it:
// whenever a disk is missing later, one of these is there, and the epoch is a later
// one, even if this opening comes to nothing. Otherwise two openings could adopt
// unlike logs in one epoch, or the earlier one in the later epoch. If no disk is
// missing, nothing can come back: the latest epoch goes on.
func (o *opening) settle() (*content, bool) {
	settled := *o.latest()
	isNew := len(o.quorum) < places
	if isNew {
		settled.epoch = o.announced() + 1
	}
	if !o.each(o.clean) {
		return nil, false
	}
	announcement := encode(announceName, []int{settled.epoch}, nil)
	if isNew && !o.each(func(_ int, d *Disk) api.Errno { return d.write(announcement) }) {
		return nil, false
	}
	ok := o.each(func(place int, d *Disk) api.Errno {
		return d.adopt(&settled, o.contents[place])
	})
	return &settled, ok
}

// clean cuts off what was not written completely.
func (o *opening) clean(place int, d *Disk) api.Errno {
	size := o.contents[place].size
	if size == d.size() {
		return api.OK
	}
	return d.Cut(size)
}

// adopt makes a disk have a log.
func (d *Disk) adopt(c, old *content) api.Errno {
	if haveSameLog(c, old) {
		return d.Sync()
	}
	keep := inCommon(c.entries, old.entries)
	return d.write(encode(adoptName, []int{c.epoch, keep}, c.entries[keep:]))
}

// announced returns the latest epoch that a disk knows of.
func (o *opening) announced() int {
	out := 0
	for place := range o.quorum {
		out = max(out, o.contents[place].announced)
	}
	return out
}

// latest returns the content whose log prevails.
func (o *opening) latest() *content {
	var out *content
	for _, c := range o.contents {
		if c != nil && (out == nil || c.isLater(out)) {
			out = c
		}
	}
	return out
}

func (c *content) isLater(than *content) bool {
	if c.epoch != than.epoch {
		return c.epoch > than.epoch
	}
	return len(c.entries) > len(than.entries)
}

// inCommon returns how many entries two logs have in common at their beginnings.
func inCommon(a, b []string) int {
	n := 0
	for n < len(a) && n < len(b) && a[n] == b[n] {
		n++
	}
	return n
}
