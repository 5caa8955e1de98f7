package mirror_test

import (
	"slices"
	"testing"

	"cracknel/api"
	"cracknel/mirror"
)

// expectJoin calls Join, and checks that nothing has changed if there is an error.
func expectJoin(t *testing.T, m *mirror.Mirror, i int, d *disk, want api.Errno) {
	t.Helper()
	before, beforeDisk := viewOf(m), stateOf(d)
	if e := m.Join(i, d); e != want {
		t.Fatalf("Join(%d): error %d, not %d", i, e, want)
	}
	if want != api.OK && (viewOf(m) != before || stateOf(d) != beforeDisk) {
		t.Fatalf("Join with the error %d has changed something", want)
	}
}

// without returns disks and a mirror that does not use disk i.
func without(t *testing.T, i int, entries ...string) ([]*disk, *mirror.Mirror) {
	t.Helper()
	disks, m := fresh(t, entries...)
	stop(disks[i])
	m = opened(t, disks...)
	restart(disks[i])
	return disks, m
}

func TestJoin(t *testing.T) {
	for i := range 3 {
		for _, entries := range [][]string{nil, {""}, {"a"}, texts(50)} {
			disks, m := without(t, i, entries...)
			before := states(disks)
			d := mirror.NewDisk()
			expectJoin(t, m, i, d, api.OK)
			if !slices.Equal(states(disks), before) {
				t.Error("Join has changed other disks")
			}
			if got := m.Disks(); got[i] != d || got[(i+1)%3] != disks[(i+1)%3] || got[(i+2)%3] != disks[(i+2)%3] {
				t.Error("the disks are others")
			}
			expectUses(t, m, true, true, true)
			expectLog(t, m, entries...)
			expectSame(t, m)
			post(t, m, "last")
			expectSame(t, m)
			for _, lost := range []int{(i + 1) % 3, (i + 2) % 3} {
				c := copies(m.Disks())
				c[lost].Lose()
				expectLog(t, opened(t, c...), append(slices.Clone(entries), "last")...)
			}
		}
	}
}

// A disk may be replaced as soon as a call on it has returned an error.
func TestJoinAfterPost(t *testing.T) {
	disks, m := fresh(t, "a")
	disks[1].Lose()
	expectJoin(t, m, 1, mirror.NewDisk(), api.ErrArg)
	post(t, m, "b")
	d := mirror.NewDisk()
	expectJoin(t, m, 1, d, api.OK)
	expectJoin(t, m, 1, mirror.NewDisk(), api.ErrArg)
	disks[0].Lose()
	post(t, m, "c")
	expectJoin(t, m, 0, mirror.NewDisk(), api.OK)
	disks[2].Lose()
	post(t, m, "d")
	expectUses(t, m, true, true, false)
	expectJoin(t, m, 2, mirror.NewDisk(), api.OK)
	expectLog(t, m, "a", "b", "c", "d")
	expectSame(t, m)
	expectLog(t, opened(t, m.Disks()...), "a", "b", "c", "d")
}

func TestJoinWithInvalidArguments(t *testing.T) {
	for i := range 3 {
		disks, m := without(t, i, "a")
		for _, place := range append(odd(), 3, 4) {
			expectJoin(t, m, place, mirror.NewDisk(), api.ErrArg)
		}
		lost, down := mirror.NewDisk(), mirror.NewDisk()
		lost.Lose()
		stop(down)
		for _, d := range []*disk{mirror.NewDisk(), lost, down} {
			expectJoin(t, m, (i+1)%3, d, api.ErrArg)
			expectJoin(t, m, (i+2)%3, d, api.ErrArg)
			expectJoin(t, m, -1, d, api.ErrArg)
		}
		copied := *mirror.NewDisk()
		loose, stopped := mirror.NewDisk(), written("x")
		loose.Append([]byte("x"))
		stop(stopped)
		for _, d := range []*disk{nil, new(disk), &copied, written("x"), loose, stopped, formatted(t, 0)[0], disks[i].Clone()} {
			expectJoin(t, m, i, d, api.ErrArg)
		}
		for _, d := range disks {
			expectJoin(t, m, i, d, api.ErrArg)
		}
		expectJoin(t, m, i, lost, api.ErrLost)
		expectJoin(t, m, i, down, api.ErrDown)
		stop(disks[i])
		disks[i].Lose() // It has no bytes, but is one of the three.
		expectJoin(t, m, i, disks[i], api.ErrArg)
		restart(down)
		expectJoin(t, m, i, down, api.OK)
	}
}

// Also a disk without bytes that was among the three may not join.
func TestJoinWithEmptyDiskOfTheThree(t *testing.T) {
	disks, _ := fresh(t, "a")
	d := mirror.NewDisk()
	m := opened(t, disks[0], d, disks[2])
	expectUses(t, m, true, false, true)
	expectJoin(t, m, 1, d, api.ErrArg)
	expectJoin(t, m, 1, d.Clone(), api.OK)
	expectUses(t, m, true, true, true)
}

// The disk that joins goes down in each act, and keeps any bytes: unless these are
// all that was written, it is not available.
func TestJoinGoesDown(t *testing.T) {
	acts := 0
	for act := 1; act <= acts+1; act++ {
		disks, m := without(t, 1, "a", "b")
		d := mirror.NewDisk()
		d.Arm(act)
		before := viewOf(m)
		e := m.Join(1, d)
		if !d.Down() {
			expectErrno(t, "Join", e, api.OK)
			continue
		}
		acts = act
		expectErrno(t, "Join", e, api.ErrDown)
		if viewOf(m) != before {
			t.Fatal("a Join that did not come about has changed the mirror")
		}
		for keep := range len(d.Bytes()) {
			c := d.Clone()
			c.Restart(keep)
			state := stateOf(c)
			three := []*disk{disks[0].Clone(), c, disks[2].Clone()}
			stop(three[0])
			expectRefused(t, three, api.ErrFew)
			restart(three[0])
			expectUses(t, opened(t, three...), true, false, true)
			if stateOf(c) != state {
				t.Fatal("a disk that is not available has changed")
			}
		}
		post(t, m, "c")
		expectUses(t, m, true, false, true)
		expectJoin(t, m, 1, mirror.NewDisk(), api.OK)
		expectLog(t, m, "a", "b", "c")
		expectSame(t, m)
	}
	if acts < 2 {
		t.Errorf("Join does %d acts", acts)
	}
}

func TestJoinOfLogsWithAnyID(t *testing.T) {
	for _, id := range []int{0, 1, 77, 1 << 40} {
		disks := formatted(t, id)
		post(t, opened(t, disks...), "a")
		stop(disks[2])
		m := opened(t, disks...)
		expectJoin(t, m, 2, mirror.NewDisk(), api.OK)
		disks = m.Disks()
		m = opened(t, disks...)
		expectUses(t, m, true, true, true)
		stop(disks[0])
		m = opened(t, disks...)
		expectJoin(t, m, 0, mirror.NewDisk(), api.OK)
		other := formatted(t, id+1-2*(id>>40))
		for i := range 3 {
			expectRefused(t, []*disk{m.Disks()[i], m.Disks()[(i+1)%3], other[0]}, api.ErrForm)
		}
		expectLog(t, m, "a")
		expectSame(t, m)
	}
}

// An armed disk that does not go down in the Join does so later.
func TestJoinOfArmedDisk(t *testing.T) {
	_, m := without(t, 0, "a")
	d := mirror.NewDisk()
	d.Arm(4)
	expectJoin(t, m, 0, d, api.OK)
	post(t, m, "b")
	post(t, m, "c")
	expectUses(t, m, false, true, true)
	expectJoin(t, m, 0, mirror.NewDisk(), api.OK)
	expectSame(t, m)
}

// What a disk had that was replaced does not come back, as little as what was posted
// in vain after a Join.
func TestOpenAfterJoin(t *testing.T) {
	disks, m := fresh(t, "a")
	fail(t, m, "lost", 0)
	restart(disks...)
	stop(disks[0])
	m = opened(t, disks...)
	d := mirror.NewDisk()
	expectJoin(t, m, 0, d, api.OK)
	fail(t, m, "b", 0)
	disks = m.Disks()
	restart(disks...)
	expectLog(t, opened(t, copies(disks)...), "a", "b")
	stop(disks[0])
	m = opened(t, disks...)
	expectLog(t, m, "a")
	post(t, m, "c")
	restart(disks[0])
	for away := -1; away < 3; away++ {
		c := copies(disks)
		if away >= 0 {
			stop(c[away])
		}
		expectLog(t, opened(t, c...), "a", "c")
	}
}
