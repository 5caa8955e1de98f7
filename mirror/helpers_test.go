package mirror_test

import (
	"bytes"
	"math/rand"
	"slices"
	"strings"
	"testing"

	"cracknel/api"
	"cracknel/mirror"
)

type disk = mirror.Disk

// all is more bytes than a disk has.
const all = 1 << 30

func between(r *rand.Rand, low, high int) int { return low + r.Intn(high-low+1) }

// odd returns numbers that are never places, acts that come about, or numbers of
// bytes that a disk has.
func odd() []int {
	return []int{-1 << 63, -1 << 62, -1<<32 + 1, -1 << 32, -2, -1, 65537, 1 << 31, 1 << 32, 1<<32 + 1, 1 << 62, 1<<63 - 1}
}

func blank() []*disk { return []*disk{mirror.NewDisk(), mirror.NewDisk(), mirror.NewDisk()} }

// written returns a disk with these bytes, all of them safe.
func written(text string) *disk {
	d := mirror.NewDisk()
	d.Append([]byte(text))
	d.Sync()
	return d
}

func formatted(t *testing.T, id int) []*disk {
	t.Helper()
	disks := blank()
	if e := mirror.Format(disks, id); e != api.OK {
		t.Fatalf("Format: error %d", e)
	}
	return disks
}

func opened(t *testing.T, disks ...*disk) *mirror.Mirror {
	t.Helper()
	m, e := mirror.Open(disks)
	if e != api.OK || m == nil {
		t.Fatalf("Open: error %d", e)
	}
	return m
}

// fresh returns new disks with a log of these entries, and the mirror that posted
// them.
func fresh(t *testing.T, entries ...string) ([]*disk, *mirror.Mirror) {
	t.Helper()
	disks := formatted(t, 0)
	m := opened(t, disks...)
	post(t, m, entries...)
	return disks, m
}

func post(t *testing.T, m *mirror.Mirror, entries ...string) {
	t.Helper()
	for _, entry := range entries {
		if e := m.Post(entry); e != api.OK {
			t.Fatalf("Post of %q: error %d", entry, e)
		}
	}
}

// fail posts an entry that only the disks in these places get.
func fail(t *testing.T, m *mirror.Mirror, entry string, places ...int) {
	t.Helper()
	for i, d := range m.Disks() {
		if !slices.Contains(places, i) {
			stop(d)
		}
	}
	if e := m.Post(entry); e != api.ErrFew || !m.Broken() {
		t.Fatalf("Post of %q: error %d", entry, e)
	}
}

// stop takes disks down that were up, and changes nothing else.
func stop(disks ...*disk) {
	for _, d := range disks {
		d.Arm(1)
		d.Sync()
	}
}

func restart(disks ...*disk) {
	for _, d := range disks {
		d.Restart(0)
	}
}

func copies(disks []*disk) []*disk {
	var out []*disk
	for _, d := range disks {
		out = append(out, d.Clone())
	}
	return out
}

func expectLog(t *testing.T, m *mirror.Mirror, entries ...string) {
	t.Helper()
	if got := m.Log(); !slices.Equal(got, entries) {
		t.Fatalf("the log is %q, not %q", brief(got), brief(entries))
	}
}

func expectUses(t *testing.T, m *mirror.Mirror, uses ...bool) {
	t.Helper()
	if got := m.Uses(); !slices.Equal(got, uses) {
		t.Fatalf("Uses = %v, not %v", got, uses)
	}
}

func expectRefused(t *testing.T, disks []*disk, want api.Errno) {
	t.Helper()
	before := states(disks)
	m, e := mirror.Open(disks)
	if m != nil || e != want {
		t.Fatalf("Open = %v, error %d, not %d", m != nil, e, want)
	}
	if !slices.Equal(states(disks), before) {
		t.Fatalf("Open with the error %d has changed disks", e)
	}
}

// unarmed returns a copy that does not go down any more.
func unarmed(d *disk) *disk {
	c := d.Clone()
	c.Arm(0)
	return c
}

// logOf returns the log that a disk has by itself.
func logOf(t *testing.T, d *disk) []string {
	t.Helper()
	return opened(t, unarmed(d), unarmed(d), mirror.NewDisk()).Log()
}

// A state is all that can be seen of a disk.
type state struct {
	bytes, safe string
	down, lost  bool
	left        int // the act that it goes down in, of the first twenty
}

func stateOf(d *disk) state {
	if d.Clone() == nil {
		return state{}
	}
	s := state{bytes: string(d.Bytes()), down: d.Down(), lost: d.Lost()}
	c := d.Clone()
	for act := 1; act <= 20 && !s.down && !s.lost; act++ {
		if c.Sync() == api.ErrDown {
			s.left = act
			break
		}
	}
	c = d.Clone()
	c.Restart(0)
	s.safe = string(c.Bytes())
	return s
}

func states(disks []*disk) []state {
	var out []state
	for _, d := range disks {
		out = append(out, stateOf(d))
	}
	return out
}

// A view is all that can be seen of a mirror.
type view struct {
	log, uses, disks string
	at               [3]*disk
	broken           bool
}

func viewOf(m *mirror.Mirror) view {
	v := view{log: quoted(m.Log()), broken: m.Broken()}
	for _, used := range m.Uses() {
		if used {
			v.uses += "+"
		} else {
			v.uses += "-"
		}
	}
	for i, d := range m.Disks() {
		s := stateOf(d)
		v.at[i] = d
		v.disks += quoted([]string{s.bytes, s.safe}) + string(rune('0'+s.left))
		v.disks += map[bool]string{true: "down", false: "up"}[s.down] + map[bool]string{true: "lost", false: ""}[s.lost]
	}
	return v
}

func quoted(texts []string) string {
	var out strings.Builder
	for _, text := range texts {
		out.WriteString(strings.ReplaceAll(text, ",", ",,"))
		out.WriteString(",;")
	}
	return out.String()
}

// brief shortens what a message tells.
func brief(entries []string) []string {
	if len(entries) > 20 {
		return append(slices.Clone(entries[:20]), "...")
	}
	return entries
}

// texts returns n different entries.
func texts(n int) []string {
	var out []string
	for i := range n {
		out = append(out, strings.Repeat(string(rune('a'+i%26)), 1+i/26))
	}
	return out
}

// pairs returns the places of each two disks.
func pairs() [][2]int { return [][2]int{{0, 1}, {0, 2}, {1, 2}} }

// pair returns copies of two of three disks, in their places and not armed, beside
// one without bytes.
func pair(disks []*disk, places [2]int) []*disk {
	out := blank()
	for _, i := range places {
		out[i] = unarmed(disks[i])
	}
	return out
}

// expectSame checks that any two of the disks that a mirror uses open to its log.
func expectSame(t *testing.T, m *mirror.Mirror) {
	t.Helper()
	uses := m.Uses()
	for _, p := range pairs() {
		if !uses[p[0]] || !uses[p[1]] {
			continue
		}
		two := pair(m.Disks(), p)
		other := opened(t, two...)
		if !slices.Equal(other.Log(), m.Log()) {
			t.Fatalf("disks %v open to %q, not to %q", p, brief(other.Log()), brief(m.Log()))
		}
	}
	for i, d := range m.Disks() {
		if uses[i] && !slices.Equal(logOf(t, d), m.Log()) {
			t.Fatalf("disk %d has the log %q, not %q", i, brief(logOf(t, d)), brief(m.Log()))
		}
		if s := stateOf(d); uses[i] && s.bytes != s.safe {
			t.Fatalf("disk %d has bytes that are not safe", i)
		}
	}
}

func isPrefix(of, d *disk) bool { return bytes.HasPrefix(d.Bytes(), of.Bytes()) }
