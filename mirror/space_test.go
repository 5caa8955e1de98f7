package mirror_test

import (
	"slices"
	"strings"
	"testing"

	"cracknel/api"
	"cracknel/mirror"
)

func sizes(disks []*disk) []int {
	var out []int
	for _, d := range disks {
		out = append(out, len(d.Bytes()))
	}
	return out
}

// mostOf returns how many bytes entries take at most.
func mostOf(entries []string) int {
	n := 0
	for _, entry := range entries {
		n += len(entry) + 64
	}
	return n
}

// lacking returns what a log has and another one does not, behind what they have in
// common at their beginnings.
func lacking(log, other []string) []string {
	n := 0
	for n < len(log) && n < len(other) && log[n] == other[n] {
		n++
	}
	return log[n:]
}

// openWithin opens disks, and checks that each of them takes at most the bytes of
// the entries that it lacks, and 256 more.
func openWithin(t *testing.T, disks ...*disk) *mirror.Mirror {
	t.Helper()
	before := copies(disks)
	m := opened(t, disks...)
	for i, d := range disks {
		most := 0
		if m.Uses()[i] {
			most = 256 + mostOf(lacking(m.Log(), logOf(t, before[i])))
		}
		if taken := len(d.Bytes()) - len(before[i].Bytes()); taken > most {
			t.Fatalf("Open takes %d bytes of disk %d, more than %d", taken, i, most)
		}
	}
	return m
}

func TestSpaceOfEntries(t *testing.T) {
	disks, m := fresh(t)
	for n := 0; n <= api.MaxText; n++ {
		for _, c := range []string{"x", "\n", "\x00"} {
			before := sizes(disks)
			post(t, m, strings.Repeat(c, n))
			for i, size := range sizes(disks) {
				if size > before[i]+n+64 {
					t.Fatalf("an entry of %d bytes takes %d", n, size-before[i])
				}
			}
		}
	}
}

func TestSpaceOfOpen(t *testing.T) {
	disks := formatted(t, 1<<40)
	m := opened(t, disks...)
	for n := range 200 {
		stop(disks[n%3])
		if n%7 == 0 {
			fail(t, m, strings.Repeat("y", n%101), (n+1)%3)
			restart(disks[(n+2)%3])
			m = openWithin(t, disks...)
		}
		post(t, m, strings.Repeat("x", n*17%101))
		restart(disks[n%3])
		m = openWithin(t, disks...)
	}
}

func TestSpaceOfManyOpens(t *testing.T) {
	disks, _ := fresh(t, texts(20)...)
	stop(disks[0])
	for range 250 {
		openWithin(t, disks...)
	}
	restart(disks[0])
	expectLog(t, openWithin(t, disks...), texts(20)...)
}

func TestSpaceOfJoin(t *testing.T) {
	for n := range 120 {
		disks := formatted(t, 1<<40)
		log := texts(n)
		for i := range log {
			log[i] = strings.Repeat(log[i][:1], i*29%101)
		}
		post(t, opened(t, disks...), log...)
		stop(disks[0])
		d := mirror.NewDisk()
		m := opened(t, disks...)
		expectJoin(t, m, 0, d, api.OK)
		if size := len(d.Bytes()); size > 256+mostOf(log) {
			t.Fatalf("Join with %d entries takes %d bytes", n, size)
		}
	}
}

// With 256 bytes left, a log that no disk lacks an entry of can be opened.
func TestOpenWithLittleSpace(t *testing.T) {
	for away := range 3 {
		disks, m := fresh(t)
		for room(m) >= 256+api.MaxText+64 {
			post(t, m, strings.Repeat("x", api.MaxText))
		}
		for n := api.MaxText; n >= 0; n-- {
			for room(m) >= 256+n+64 {
				post(t, m, strings.Repeat("x", n))
			}
		}
		stop(disks[away])
		expectLog(t, openWithin(t, disks...), m.Log()...)
	}
}

// full returns disks that no entry fits on any more, and the mirror that posted.
func full(t *testing.T) ([]*disk, *mirror.Mirror) {
	t.Helper()
	disks, m := fresh(t)
	for n := api.MaxText; n >= 0; n-- {
		fill(t, m, n)
	}
	return disks, m
}

// A full log can be opened without one of its disks, and copied to a new one.
func TestFullLog(t *testing.T) {
	for away := range 3 {
		disks, m := full(t)
		log := m.Log()
		disks[away].Lose()
		m = opened(t, disks...)
		expectLog(t, m, log...)
		expectPost(t, m, "", api.ErrFull)
		expectJoin(t, m, away, mirror.NewDisk(), api.OK)
		expectSame(t, m)
		for range 10 {
			m = opened(t, m.Disks()...)
			expectLog(t, m, log...)
		}
	}
}

// A full disk may lack entries that two other disks have.
func TestFullLogOfWhichADiskIsBehind(t *testing.T) {
	for i := range 3 {
		disks, m := fresh(t, texts(9)...)
		stop(disks[i])
		fill(t, m, api.MaxText)
		restart(disks[i])
		for _, away := range []int{-1, (i + 1) % 3, (i + 2) % 3} {
			c := copies(disks)
			if away >= 0 {
				stop(c[away])
			}
			other := openWithin(t, c...)
			expectLog(t, other, m.Log()...)
			expectUses(t, other, away != 0, away != 1, away != 2)
			expectSame(t, other)
		}
	}
}

// Two disks without room can be opened with a third one only: then nothing is
// written on them.
func TestOpenWithoutSpace(t *testing.T) {
	for away := range 3 {
		disks, m := full(t)
		log := m.Log()
		stop(disks[away])
		for count := 0; ; count++ {
			m, e := mirror.Open(disks)
			if e == api.ErrFew && m == nil && count >= 3 {
				break
			}
			if e != api.OK || count > 20 {
				t.Fatalf("Open: error %d after %d others", e, count)
			}
			expectLog(t, m, log...)
		}
		restart(disks[away])
		before := states(disks)
		m = opened(t, disks...)
		expectLog(t, m, log...)
		expectUses(t, m, true, true, true)
		for i, s := range states(disks) {
			if i != away && s != before[i] {
				t.Error("Open writes on disks that are up to date")
			}
		}
	}
}

// One disk of three has not enough room: the others are used without it.
func TestOpenWithOneFullDisk(t *testing.T) {
	for i := range 3 {
		disks, m := fresh(t, "a")
		for api.MaxDisk-len(disks[i].Bytes()) > 500 { // It has entries that are not in the log.
			fail(t, m, strings.Repeat("y", api.MaxText), i)
			restart(disks...)
			stop(disks[i])
			opened(t, disks...)
			restart(disks[i])
			m = opened(t, disks...)
			expectUses(t, m, true, true, true)
		}
		stop(disks[i])
		m = opened(t, disks...)
		log := append([]string{"a"}, slices.Repeat([]string{strings.Repeat("x", api.MaxText)}, 5)...)
		post(t, m, log[1:]...)
		restart(disks[i])
		m = opened(t, disks...)
		uses := []bool{true, true, true}
		uses[i] = false
		expectUses(t, m, uses...)
		expectLog(t, m, log...)
		post(t, m, "b")
		expectSame(t, m)
		expectJoin(t, m, i, mirror.NewDisk(), api.OK)
		expectSame(t, m)
		stop(disks[(i+1)%3])
		expectRefusedWithin(t, disks)
	}
}

// expectRefusedWithin checks that Open returns ErrFew, and takes at most 256 bytes.
func expectRefusedWithin(t *testing.T, disks []*disk) {
	t.Helper()
	before := sizes(disks)
	if m, e := mirror.Open(disks); m != nil || e != api.ErrFew {
		t.Fatalf("Open: error %d", e)
	}
	for i, size := range sizes(disks) {
		if size > before[i]+256 {
			t.Fatalf("Open takes %d bytes of disk %d", size-before[i], i)
		}
	}
}
