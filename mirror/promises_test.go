package mirror_test

import (
	"math/rand"
	"slices"
	"strconv"
	"strings"
	"testing"

	"cracknel/api"
	"cracknel/mirror"
)

// A world is three disks, a mirror that is or was open on them, and what the
// chapter says of the next log.
type world struct {
	t     *testing.T
	r     *rand.Rand
	disks []*disk
	m     *mirror.Mirror
	log   []string // every later log begins with it
	maybe []string // the entry of a Post that returned ErrFew, which may be behind it
	lost  int      // how many disks were lost since the last Open or Join
	armed [3]bool
	posts int
	told  []string // what has happened
}

func newWorld(t *testing.T, seed int64) *world {
	w := &world{t: t, r: rand.New(rand.NewSource(seed)), disks: blank()}
	for {
		w.disks[w.r.Intn(3)].Arm(w.r.Intn(6))
		if mirror.Format(w.disks, 0) == api.OK {
			break
		}
		for _, d := range w.disks {
			d.Restart(w.r.Intn(12))
		}
	}
	for _, d := range w.disks {
		d.Arm(0)
	}
	return w
}

func (w *world) tell(words ...string) { w.told = append(w.told, strings.Join(words, " ")) }

func (w *world) failf(what string, args ...any) {
	w.t.Helper()
	w.t.Logf("after %s", strings.Join(w.told, "; "))
	w.t.Fatalf(what, args...)
}

// isAllowed reports whether the next log may be this one (M1 and M2).
func (w *world) isAllowed(log []string) bool {
	return slices.Equal(log, w.log) || len(w.maybe) > 0 && slices.Equal(log, append(slices.Clone(w.log), w.maybe...))
}

func isHere(d *disk) bool { return !d.Down() && !d.Lost() }

func (w *world) open() {
	var was [3]bool
	here, ready := 0, 0
	for i, d := range w.disks {
		was[i] = isHere(d)
		if was[i] {
			here++
		}
		if was[i] && !w.armed[i] {
			ready++
		}
	}
	before := copies(w.disks)
	w.tell("open")
	m, e := mirror.Open(w.disks)
	switch {
	case e != api.OK && e != api.ErrFew || e == api.OK && here < 2:
		w.failf("Open: error %d with %d disks", e, here)
	case e == api.ErrFew && (ready >= 2 || m != nil):
		w.failf("Open: error %d with %d disks that are not armed (M3)", e, ready)
	case e == api.ErrFew:
		w.m = nil
		return
	}
	if !w.isAllowed(m.Log()) {
		w.failf("the log is %q, not %q with or without %q (M1, M2)", m.Log(), w.log, w.maybe)
	}
	w.m, w.log, w.maybe, w.lost = m, m.Log(), nil, 0
	for i, isUsed := range m.Uses() {
		if isUsed != (was[i] && isHere(w.disks[i])) {
			w.failf("Uses = %v", m.Uses())
		}
		taken := len(w.disks[i].Bytes()) - len(before[i].Bytes())
		if isUsed && taken > 256 && taken > 256+mostOf(lacking(w.log, logOf(w.t, before[i]))) {
			w.failf("Open takes %d bytes", taken)
		}
	}
	w.check()
}

// check checks what a mirror tells, and that any two disks that it uses open to its
// log (M4).
func (w *world) check() {
	w.t.Helper()
	if w.m == nil {
		return
	}
	if !slices.Equal(w.m.Log(), w.log) {
		w.failf("the log of the mirror is %q, not %q", w.m.Log(), w.log)
	}
	uses := w.m.Uses()
	for _, p := range pairs() {
		if w.m.Broken() || !uses[p[0]] || !uses[p[1]] || !isHere(w.disks[p[0]]) || !isHere(w.disks[p[1]]) {
			continue
		}
		m, e := mirror.Open(pair(w.disks, p))
		if e != api.OK || !slices.Equal(m.Log(), w.log) {
			w.failf("disks %v: error %d, %q, not %q (M4)", p, e, m.Log(), w.log)
		}
	}
}

func (w *world) post() {
	if w.m == nil {
		return
	}
	w.posts++
	entry := strconv.Itoa(w.posts) + strings.Repeat("x", w.r.Intn(5)*w.r.Intn(20))
	wasBroken := w.m.Broken()
	w.tell("post", entry)
	e := w.m.Post(entry)
	if wasBroken {
		if e != api.ErrState {
			w.failf("Post on a broken mirror: error %d", e)
		}
		return
	}
	count := 0
	for i, isUsed := range w.m.Uses() {
		if isUsed {
			count++
		}
		if isUsed && !isHere(w.disks[i]) {
			w.failf("disk %d is used", i)
		}
	}
	if (e == api.OK) != (count >= 2) || e != api.OK && e != api.ErrFew || w.m.Broken() != (e == api.ErrFew) {
		w.failf("Post: error %d with %d disks", e, count)
	}
	if e == api.OK {
		w.log = append(w.log, entry)
	} else {
		w.maybe = []string{entry}
	}
	w.check()
}

func (w *world) join() {
	if w.m == nil || w.m.Broken() {
		return
	}
	i := w.r.Intn(3)
	isUsed := w.m.Uses()[i]
	d := mirror.NewDisk()
	act := w.r.Intn(5)
	d.Arm(act)
	w.tell("join", strconv.Itoa(i), "armed", strconv.Itoa(act))
	e := w.m.Join(i, d)
	switch {
	case isUsed != (e == api.ErrArg) || d.Down() != (e == api.ErrDown):
		w.failf("Join: error %d", e)
	case e == api.OK:
		w.disks = w.m.Disks()
		w.armed[i] = act > 0
		w.lost = 0
	}
	w.check()
}

// act lets something happen.
func (w *world) act() {
	i := w.r.Intn(3)
	d := w.disks[i]
	switch n := w.r.Intn(100); {
	case n < 30:
		w.post()
	case n < 50:
		w.open()
	case n < 62:
		act := w.r.Intn(8)
		w.tell("arm", strconv.Itoa(i), strconv.Itoa(act))
		d.Arm(act)
		w.armed[i] = isHere(d) && act > 0
	case n < 72:
		w.tell("stop", strconv.Itoa(i))
		stop(d)
	case n < 92:
		if d.Down() {
			keep := []int{-1, 0, 1, 5, 9, 14, 20, all}[w.r.Intn(8)]
			w.tell("restart", strconv.Itoa(i), strconv.Itoa(keep))
			d.Restart(keep)
			w.armed[i] = false
		}
	case n < 97:
		w.join()
	case n < 99:
		w.probe()
	default:
		w.lose(i)
	}
}

func (w *world) lose(i int) {
	if w.lost == 0 && !w.disks[i].Lost() {
		w.tell("lose", strconv.Itoa(i))
		w.disks[i].Lose()
		w.lost++
	}
}

// probe opens copies of what there is, whichever disk is away, or lost if one may
// be.
func (w *world) probe() {
	for away := range 3 {
		c := copies(w.disks)
		here := 0
		for i, d := range c {
			d.Restart(w.r.Intn(30))
			if i == away && w.lost == 0 {
				d.Lose()
			} else if i == away {
				stop(d)
			}
			if isHere(d) {
				here++
			}
		}
		if here < 2 {
			continue
		}
		m, e := mirror.Open(c)
		if e != api.OK || !w.isAllowed(m.Log()) {
			w.failf("without disk %d: error %d, %q", away, e, m.Log())
		}
	}
}

// end restarts all disks, and opens the log if there are enough of them.
func (w *world) end() {
	w.probe()
	here := 0
	for i, d := range w.disks {
		d.Restart(w.r.Intn(30))
		w.armed[i] = false
		if isHere(d) {
			here++
		}
	}
	w.tell("restart all")
	if here >= 2 {
		w.open()
	}
}

func TestManySequences(t *testing.T) {
	for seed := range int64(6000) {
		w := newWorld(t, seed)
		w.open()
		for range 10 + w.r.Intn(60) {
			w.act()
		}
		w.end()
	}
}

// Long sequences without losses, in which disks are away for many Opens.
func TestLongSequences(t *testing.T) {
	for seed := range int64(40) {
		w := newWorld(t, seed)
		for range 80 {
			for away, n := w.r.Intn(3), w.r.Intn(5); n > 0; n-- {
				w.tell("stop", strconv.Itoa(away))
				stop(w.disks[away])
				w.open()
				w.post()
			}
			i := w.r.Intn(3)
			w.tell("arm", strconv.Itoa(i))
			w.disks[i].Arm(1 + w.r.Intn(6))
			w.armed[i] = isHere(w.disks[i])
			w.open()
			w.post()
			for i, d := range w.disks {
				if d.Down() && w.r.Intn(3) > 0 {
					w.tell("restart", strconv.Itoa(i))
					d.Restart(w.r.Intn(20))
					w.armed[i] = false
				}
			}
		}
		w.end()
	}
}

// A round is one Open, and a Post if that succeeds, with one disk away or none, and
// with one that goes down in an act or none.
type round struct{ away, armed, act, keep int }

func rounds() []round {
	var out []round
	for away := -1; away < 3; away++ {
		out = append(out, round{away, -1, 0, 0})
		for armed := range 3 {
			for act := 1; act <= 7 && armed != away; act++ {
				for _, keep := range []int{0, all} {
					out = append(out, round{away, armed, act, keep})
				}
			}
		}
	}
	return out
}

// fork returns a copy of a world for another course of things.
func (w *world) fork() *world {
	c := *w
	c.disks = copies(w.disks)
	c.log, c.told = slices.Clone(w.log), slices.Clone(w.told)
	c.m = nil
	return &c
}

func (w *world) do(o round) {
	w.tell("round", strconv.Itoa(o.away), strconv.Itoa(o.armed), strconv.Itoa(o.act), strconv.Itoa(o.keep))
	if o.away >= 0 {
		stop(w.disks[o.away])
	}
	if o.armed >= 0 {
		w.disks[o.armed].Arm(o.act)
		w.armed[o.armed] = true
	}
	w.open()
	w.post()
	for i, d := range w.disks {
		d.Restart(o.keep)
		w.armed[i] = false
	}
}

// Every course of two rounds is looked at, whatever goes down in them and whichever
// disk is away then and in the end; first an entry reached one disk only.
func TestAllCourses(t *testing.T) {
	for i := range 3 {
		start := newWorld(t, 1)
		start.open()
		start.post()
		stop(start.disks[(i+1)%3], start.disks[(i+2)%3])
		start.post()
		restart(start.disks...)
		for _, first := range rounds() {
			w := start.fork()
			w.do(first)
			for _, second := range rounds() {
				v := w.fork()
				v.do(second)
				v.probe()
			}
		}
	}
}
