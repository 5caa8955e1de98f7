package mirror_test

import (
	"math/rand"
	"slices"
	"strconv"
	"testing"

	"cracknel/api"
	"cracknel/mirror"
)

func TestInvalidMirrors(t *testing.T) {
	_, made := fresh(t, "a")
	copied := *made
	for _, m := range []*mirror.Mirror{nil, {}, new(mirror.Mirror), &copied} {
		for _, entry := range []string{"", "a", string(make([]byte, api.MaxText+1))} {
			expectErrno(t, "Post", m.Post(entry), api.ErrState)
		}
		for i := -1; i <= 3; i++ {
			for _, d := range []*disk{nil, new(disk), mirror.NewDisk(), written("x")} {
				expectErrno(t, "Join", m.Join(i, d), api.ErrState)
			}
		}
		if m.Log() != nil || m.Uses() != nil || m.Disks() != nil || m.Clone() != nil || !m.Broken() {
			t.Errorf("%v, %v, %v, %v, %t", m.Log(), m.Uses(), m.Disks(), m.Clone(), m.Broken())
		}
	}
	expectLog(t, made, "a")
	post(t, made, "b")
}

// Disks that are overwritten as structs are none, and no call panics for them.
func TestDisksThatAreOverwritten(t *testing.T) {
	disks, m := fresh(t, "a")
	*disks[1] = disk{}
	expectRefused(t, disks, api.ErrArg)
	c := m.Clone()
	for _, m := range []*mirror.Mirror{m, c} {
		post(t, m, "b")
		expectUses(t, m, true, false, true)
		expectLog(t, m.Clone(), "a", "b")
		expectJoin(t, m, 1, mirror.NewDisk(), api.OK)
		expectSame(t, m)
	}
}

func TestDisksThemselves(t *testing.T) {
	disks, m := fresh(t, "a")
	got := m.Disks()
	if !slices.Equal(got, disks) {
		t.Fatal("Disks are not the disks that were opened")
	}
	got[0], got[1] = nil, got[2]
	if !slices.Equal(m.Disks(), disks) {
		t.Error("Disks shares memory with the mirror")
	}
	original := slices.Clone(disks)
	disks[0], disks[1], disks[2] = nil, nil, nil
	if !slices.Equal(m.Disks(), original) {
		t.Error("the mirror has kept the slice that it was opened with")
	}
	post(t, m, "b")
	expectSame(t, m)
}

func TestResultsAreNewMemory(t *testing.T) {
	disks, m := fresh(t, "a", "b")
	log, uses := m.Log(), m.Uses()
	log[0], uses[0] = "x", false
	_ = append(log[:1], "y")
	expectLog(t, m, "a", "b")
	expectUses(t, m, true, true, true)
	longer := m.Log()
	post(t, m, "c")
	_ = append(longer, "z")
	expectLog(t, m, "a", "b", "c")
	again := opened(t, disks...)
	post(t, again, "d")
	expectLog(t, m, "a", "b", "c")
}

func TestCloneOfMirror(t *testing.T) {
	_, m := without(t, 1, "a", "b")
	m.Disks()[0].Arm(4)
	v := viewOf(m)
	c := m.Clone()
	if w := viewOf(c); w.log != v.log || w.uses != v.uses || w.disks != v.disks || w.broken {
		t.Fatalf("the clone is %+v, not %+v", w, v)
	}
	for i, d := range c.Disks() {
		if d == m.Disks()[i] {
			t.Fatal("a clone has the disks themselves")
		}
	}
	expectJoin(t, c, 1, mirror.NewDisk(), api.OK)
	post(t, c, "c")
	fail(t, c, "d", 1)
	if viewOf(m) != v {
		t.Fatal("a clone has changed the mirror")
	}
	c = m.Clone()
	w := viewOf(c)
	post(t, m, "e")
	m.Post("f")
	expectJoin(t, m, 1, mirror.NewDisk(), api.ErrState)
	if viewOf(c) != w {
		t.Fatal("a mirror has changed its clone")
	}
}

// However many entries there are, those of a clone are its own.
func TestEntriesOfClone(t *testing.T) {
	_, m := fresh(t)
	for _, text := range texts(40) {
		post(t, m, text)
		c := m.Clone()
		d := m.Clone()
		post(t, m, "x")
		post(t, c, "y")
		post(t, d, "z")
		log := m.Log()
		expectLog(t, c, append(slices.Clone(log[:len(log)-1]), "y")...)
		expectLog(t, d, append(slices.Clone(log[:len(log)-1]), "z")...)
		expectLog(t, m, append(slices.Clone(log[:len(log)-1]), "x")...)
	}
}

// A clone can be closed and opened again like the mirror itself.
func TestCloneIsOpenedAgain(t *testing.T) {
	_, m := fresh(t, "a")
	c := m.Clone()
	post(t, m, "b")
	post(t, c, "c", "d")
	expectLog(t, opened(t, m.Disks()...), "a", "b")
	expectLog(t, opened(t, c.Disks()...), "a", "c", "d")
}

// What disks and a mirror are after the same calls is the same.
func TestRepeatedCalls(t *testing.T) {
	var first []state
	for range 20 {
		r := rand.New(rand.NewSource(5))
		disks := formatted(t, 0)
		var seen []state
		for n := range 60 {
			disks[r.Intn(3)].Arm(r.Intn(8))
			if m, e := mirror.Open(disks); e == api.OK {
				for range 3 {
					m.Post(strconv.Itoa(n))
				}
			}
			for _, d := range disks {
				d.Restart(r.Intn(20))
			}
			seen = append(seen, states(disks)...)
		}
		if first == nil {
			first = seen
		}
		if !slices.Equal(first, seen) {
			t.Fatal("the same calls have left unlike disks")
		}
	}
}

// Disks of logs that had nothing to do with one another open to the same log each
// time, whichever it is.
func TestDisksOfUnlikeLogs(t *testing.T) {
	for range 20 {
		a, m := fresh(t, "a")
		b, c := copies(a), copies(a)
		post(t, m, "b")
		post(t, opened(t, b...), "c")
		post(t, opened(t, c...), "d")
		log := opened(t, a[0].Clone(), b[1].Clone(), c[2].Clone()).Log()
		for range 20 {
			expectLog(t, opened(t, a[0].Clone(), b[1].Clone(), c[2].Clone()), log...)
		}
	}
}
