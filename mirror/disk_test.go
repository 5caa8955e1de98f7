package mirror_test

import (
	"math/rand"
	"slices"
	"strings"
	"testing"

	"cracknel/api"
	"cracknel/mirror"
)

func expectState(t *testing.T, d *disk, want state) {
	t.Helper()
	if got := stateOf(d); got != want {
		t.Fatalf("the disk is %+v, not %+v", got, want)
	}
}

func expectErrno(t *testing.T, what string, got, want api.Errno) {
	t.Helper()
	if got != want {
		t.Fatalf("%s: error %d, not %d", what, got, want)
	}
}

func TestNewDisk(t *testing.T) {
	d := mirror.NewDisk()
	expectState(t, d, state{})
	if d == mirror.NewDisk() {
		t.Error("NewDisk returns one disk twice")
	}
}

func TestAppend(t *testing.T) {
	d := mirror.NewDisk()
	expectErrno(t, "Append", d.Append([]byte("ab")), api.OK)
	expectState(t, d, state{bytes: "ab"})
	expectErrno(t, "Append of nothing", d.Append(nil), api.OK)
	expectErrno(t, "Append", d.Append([]byte{0, 255}), api.OK)
	expectState(t, d, state{bytes: "ab\x00\xff"})
	d.Sync()
	d.Append([]byte("c"))
	expectState(t, d, state{bytes: "ab\x00\xffc", safe: "ab\x00\xff"})
}

func TestAppendToFullDisk(t *testing.T) {
	full := strings.Repeat("x", api.MaxDisk)
	d := mirror.NewDisk()
	expectErrno(t, "Append of one byte too many", d.Append([]byte(full+"x")), api.ErrFull)
	expectState(t, d, state{})
	expectErrno(t, "Append of as many as there may be", d.Append([]byte(full)), api.OK)
	expectErrno(t, "Append of one more", d.Append([]byte("x")), api.ErrFull)
	expectErrno(t, "Append of no more", d.Append(nil), api.OK)
	d.Sync()
	expectState(t, d, state{bytes: full, safe: full})
	d.Cut(api.MaxDisk - 2)
	expectErrno(t, "Append of three", d.Append([]byte("abc")), api.ErrFull)
	expectErrno(t, "Append of two", d.Append([]byte("ab")), api.OK)
	expectState(t, d, state{bytes: full[2:] + "ab", safe: full[2:]})
}

func TestCut(t *testing.T) {
	for n := 0; n <= 5; n++ {
		d := written("abc")
		d.Append([]byte("de"))
		expectErrno(t, "Cut", d.Cut(n), api.OK)
		expectState(t, d, state{bytes: "abcde"[:n], safe: "abcde"[:min(n, 3)]})
	}
	d := written("abc")
	d.Append([]byte("de"))
	for _, n := range append(odd(), 6, 7) {
		expectErrno(t, "Cut", d.Cut(n), api.ErrArg)
		expectState(t, d, state{bytes: "abcde", safe: "abc"})
	}
}

// What is appended after a Cut into the safe bytes is not safe, even where safe
// bytes have been.
func TestCutIntoSafeBytes(t *testing.T) {
	d := written("abcdef")
	d.Cut(2)
	d.Append([]byte("xyz"))
	expectState(t, d, state{bytes: "abxyz", safe: "ab"})
	d.Restart(1)
	expectState(t, d, state{bytes: "abx", safe: "abx"})
}

func TestSync(t *testing.T) {
	d := mirror.NewDisk()
	expectErrno(t, "Sync", d.Sync(), api.OK)
	expectState(t, d, state{})
	d.Append([]byte("abc"))
	expectErrno(t, "Sync", d.Sync(), api.OK)
	expectState(t, d, state{bytes: "abc", safe: "abc"})
}

func TestRestart(t *testing.T) {
	for _, isDown := range []bool{false, true} {
		for _, keep := range append(odd(), 0, 1, 2, 3, 4) {
			d := written("ab")
			d.Append([]byte("cde"))
			d.Arm(3)
			if isDown {
				stop(d)
			}
			d.Restart(keep)
			left := "abcde"[:2+min(max(keep, 0), 3)]
			expectState(t, d, state{bytes: left, safe: left})
		}
	}
}

func TestArm(t *testing.T) {
	acts := []func(d *disk) api.Errno{
		func(d *disk) api.Errno { return d.Append([]byte("x")) },
		func(d *disk) api.Errno { return d.Cut(1) },
		func(d *disk) api.Errno { return d.Sync() },
	}
	for first := range acts {
		for act := 1; act <= 7; act++ {
			d := written("ab")
			d.Arm(act)
			for i := 1; i < act; i++ {
				expectErrno(t, "an act before", acts[(first+i)%3](d), api.OK)
			}
			expectErrno(t, "the act", acts[(first+act)%3](d), api.ErrDown)
			if !d.Down() || d.Lost() {
				t.Fatalf("the disk has not gone down in act %d", act)
			}
		}
	}
}

func TestArmAgain(t *testing.T) {
	for _, act := range []int{0, -1, -1 << 63} {
		d := written("ab")
		d.Arm(2)
		d.Sync()
		d.Arm(act)
		expectState(t, d, state{bytes: "ab", safe: "ab"})
	}
	d := written("ab")
	d.Arm(2)
	d.Arm(5)
	expectState(t, d, state{bytes: "ab", safe: "ab", left: 5})
	d.Sync()
	d.Sync()
	expectState(t, d, state{bytes: "ab", safe: "ab", left: 3})
	d.Arm(1)
	expectState(t, d, state{bytes: "ab", safe: "ab", left: 1})
	d.Arm(1<<63 - 1)
	expectState(t, d, state{bytes: "ab", safe: "ab"})
}

func TestRefusedCallsAreNoActs(t *testing.T) {
	d := written("ab")
	d.Arm(2)
	expectErrno(t, "Cut", d.Cut(3), api.ErrArg)
	expectErrno(t, "Cut", d.Cut(-1), api.ErrArg)
	expectErrno(t, "Append", d.Append(make([]byte, api.MaxDisk)), api.ErrFull)
	expectState(t, d, state{bytes: "ab", safe: "ab", left: 2})
	d.Arm(1)
	expectErrno(t, "Append", d.Append(make([]byte, api.MaxDisk)), api.ErrFull)
	expectErrno(t, "Cut", d.Cut(3), api.ErrArg)
	expectState(t, d, state{bytes: "ab", safe: "ab", left: 1})
}

func TestActThatTakesTheDiskDown(t *testing.T) {
	prepared := func() *disk {
		d := written("abc")
		d.Append([]byte("de"))
		d.Arm(1)
		return d
	}
	d := prepared()
	expectErrno(t, "Append", d.Append([]byte("fg")), api.ErrDown)
	expectState(t, d, state{bytes: "abcdefg", safe: "abc", down: true})
	d = prepared()
	expectErrno(t, "Cut", d.Cut(1), api.ErrDown)
	expectState(t, d, state{bytes: "abcde", safe: "abc", down: true})
	d = prepared()
	expectErrno(t, "Sync", d.Sync(), api.ErrDown)
	expectState(t, d, state{bytes: "abcde", safe: "abc", down: true})
}

func TestDiskThatIsDown(t *testing.T) {
	d := written("abc")
	d.Append([]byte("de"))
	stop(d)
	want := state{bytes: "abcde", safe: "abc", down: true}
	expectErrno(t, "Append", d.Append([]byte("f")), api.ErrDown)
	expectErrno(t, "Append of too many", d.Append(make([]byte, api.MaxDisk)), api.ErrDown)
	expectErrno(t, "Cut", d.Cut(1), api.ErrDown)
	expectErrno(t, "Cut beyond", d.Cut(6), api.ErrDown)
	expectErrno(t, "Sync", d.Sync(), api.ErrDown)
	d.Arm(1)
	expectState(t, d, want)
	d.Restart(1)
	expectState(t, d, state{bytes: "abcd", safe: "abcd"})
}

func TestLose(t *testing.T) {
	armed, down := written("abc"), written("abc")
	armed.Arm(1)
	stop(down)
	for _, d := range []*disk{mirror.NewDisk(), written("abc"), armed, down} {
		for range 2 {
			d.Lose()
			expectState(t, d, state{lost: true})
		}
		expectErrno(t, "Append", d.Append(nil), api.ErrLost)
		expectErrno(t, "Append of too many", d.Append(make([]byte, api.MaxDisk+1)), api.ErrLost)
		expectErrno(t, "Cut", d.Cut(0), api.ErrLost)
		expectErrno(t, "Cut beyond", d.Cut(1), api.ErrLost)
		expectErrno(t, "Sync", d.Sync(), api.ErrLost)
		d.Arm(1)
		d.Restart(3)
		expectState(t, d, state{lost: true})
	}
}

func TestCloneOfDisk(t *testing.T) {
	d := written("abc")
	d.Append([]byte("de"))
	d.Arm(3)
	want := state{bytes: "abcde", safe: "abc", left: 3}
	c := d.Clone()
	expectState(t, c, want)
	c.Cut(1)
	c.Append([]byte("xyz"))
	expectState(t, d, want)
	other := d.Clone()
	d.Sync()
	d.Cut(2)
	d.Append([]byte("uvw"))
	expectState(t, c, state{bytes: "axyz", safe: "a", left: 1})
	expectState(t, other, want)
	d.Lose()
	expectState(t, d.Clone(), state{lost: true})
	expectState(t, other, want)
	stop(other)
	expectState(t, other.Clone(), state{bytes: "abcde", safe: "abc", down: true})
}

func TestInvalidDisks(t *testing.T) {
	var zero, copied disk
	copied = *written("abc")
	for _, d := range []*disk{nil, &zero, new(disk), &copied} {
		for range 2 {
			expectErrno(t, "Append", d.Append([]byte("a")), api.ErrState)
			expectErrno(t, "Append of too many", d.Append(make([]byte, api.MaxDisk+1)), api.ErrState)
			expectErrno(t, "Cut", d.Cut(0), api.ErrState)
			expectErrno(t, "Cut below 0", d.Cut(-1), api.ErrState)
			expectErrno(t, "Sync", d.Sync(), api.ErrState)
			if d.Bytes() != nil || d.Down() || d.Lost() || d.Clone() != nil {
				t.Errorf("%v, %t, %t, %v", d.Bytes(), d.Down(), d.Lost(), d.Clone())
			}
			d.Arm(1)
			d.Restart(1)
			d.Lose()
		}
	}
}

// What is copied out of a disk by a struct does not share its bytes.
func TestCopiedStruct(t *testing.T) {
	d := written("abc")
	copied := *d
	copied.Cut(0)
	copied.Append([]byte("x"))
	copied.Lose()
	expectState(t, d, state{bytes: "abc", safe: "abc"})
}

func TestDiskSharesNoMemory(t *testing.T) {
	d := mirror.NewDisk()
	text := []byte("abc")
	d.Append(text)
	text[0] = 'x'
	got := d.Bytes()
	if string(got) != "abc" {
		t.Fatalf("Bytes = %q", got)
	}
	got[1] = 'y'
	_ = append(got, 'z')
	d.Append([]byte("d"))
	if string(d.Bytes()) != "abcd" || string(got) != "ayc" {
		t.Errorf("Bytes = %q, %q", d.Bytes(), got)
	}
}

// A model is a disk each byte of which says whether it is safe.
type model struct {
	bytes      []byte
	isSafe     []bool
	down, lost bool
	acts       int
	downAt     int // the act that it goes down in
}

// begins counts an act if none of the conditions, each of an error, holds.
func (m *model) begins(isRefused bool, e api.Errno) (api.Errno, bool) {
	switch {
	case m.lost:
		return api.ErrLost, false
	case m.down:
		return api.ErrDown, false
	case isRefused:
		return e, false
	}
	m.acts++
	if m.acts == m.downAt {
		m.down = true
		return api.ErrDown, true
	}
	return api.OK, true
}

func (m *model) appended(b []byte) api.Errno {
	e, isAct := m.begins(len(m.bytes)+len(b) > api.MaxDisk, api.ErrFull)
	if isAct {
		m.bytes = append(m.bytes, b...)
		m.isSafe = append(m.isSafe, make([]bool, len(b))...)
	}
	return e
}

func (m *model) cut(n int) api.Errno {
	e, _ := m.begins(n < 0 || n > len(m.bytes), api.ErrArg)
	if e == api.OK {
		m.bytes, m.isSafe = m.bytes[:n], m.isSafe[:n]
	}
	return e
}

func (m *model) sync() api.Errno {
	e, _ := m.begins(false, api.OK)
	for i := range m.isSafe {
		m.isSafe[i] = m.isSafe[i] || e == api.OK
	}
	return e
}

func (m *model) restart(keep int) {
	if m.lost {
		return
	}
	n := 0
	for n < len(m.bytes) && (m.isSafe[n] || keep > 0) {
		if !m.isSafe[n] {
			keep--
		}
		n++
	}
	m.bytes, m.isSafe = m.bytes[:n], slices.Repeat([]bool{true}, n)
	m.down, m.downAt = false, 0
}

func (m *model) state() state {
	s := state{bytes: string(m.bytes), down: m.down, lost: m.lost}
	for i := range m.bytes {
		if m.isSafe[i] {
			s.safe += string(m.bytes[i : i+1])
		}
	}
	if !m.down && !m.lost && m.downAt > m.acts {
		s.left = m.downAt - m.acts
	}
	return s
}

// step does one call on a disk and on its model.
func step(t *testing.T, r *rand.Rand, d *disk, m *model) {
	t.Helper()
	n := between(r, -1, len(m.bytes)+1)
	switch r.Intn(12) {
	case 0, 1, 2, 3:
		b := make([]byte, r.Intn(4))
		r.Read(b)
		expectErrno(t, "Append", d.Append(b), m.appended(b))
	case 4, 5:
		expectErrno(t, "Cut", d.Cut(n), m.cut(n))
	case 6, 7:
		expectErrno(t, "Sync", d.Sync(), m.sync())
	case 8:
		act := between(r, -1, 5)
		d.Arm(act)
		if !m.down && !m.lost {
			m.downAt = m.acts + max(act, 0)
		}
	case 9, 10:
		d.Restart(n)
		m.restart(n)
	case 11:
		if r.Intn(20) == 0 {
			d.Lose()
			*m = model{lost: true}
		}
	}
}

func TestDisksByModel(t *testing.T) {
	r := rand.New(rand.NewSource(1))
	for range 2000 {
		d, m := mirror.NewDisk(), &model{}
		for range 60 {
			step(t, r, d, m)
			if got, want := stateOf(d), m.state(); got != want {
				t.Fatalf("the disk is %+v, not %+v", got, want)
			}
			if r.Intn(10) == 0 {
				d = d.Clone()
			}
		}
	}
}
