package mirror_test

import (
	"slices"
	"strings"
	"testing"

	"cracknel/api"
	"cracknel/mirror"
)

// sets returns slices that are not three disks.
func sets() [][]*disk {
	a, b, c, d := written("a"), written("b"), written("c"), written("d")
	copied := *c
	return [][]*disk{
		nil, {}, {a}, {a, b}, {a, b, c, d}, {nil, nil, nil},
		{nil, b, c}, {a, nil, c}, {a, b, nil}, {a, a, c}, {a, b, a}, {a, b, b}, {a, a, a},
		{new(disk), b, c}, {a, new(disk), c}, {a, b, new(disk)}, {a, b, &copied},
	}
}

func TestFormat(t *testing.T) {
	for _, id := range []int{0, 1, 7, 1<<40 - 1, 1 << 40} {
		disks := formatted(t, id)
		for _, d := range disks {
			if s := stateOf(d); s.bytes == "" || s.bytes != s.safe || s.down || s.lost || s.left != 0 {
				t.Fatalf("a disk is %+v", s)
			}
		}
		m := opened(t, disks...)
		expectLog(t, m)
		expectUses(t, m, true, true, true)
		for _, p := range pairs() {
			expectLog(t, opened(t, pair(disks, p)...))
		}
	}
}

func TestFormatOfInvalidDisks(t *testing.T) {
	for _, disks := range sets() {
		before := states(disks)
		for _, id := range []int{0, -1} {
			expectErrno(t, "Format", mirror.Format(disks, id), api.ErrArg)
		}
		expectRefused(t, disks, api.ErrArg)
		if !slices.Equal(states(disks), before) {
			t.Error("Format has changed disks")
		}
	}
}

func TestFormatOfInvalidID(t *testing.T) {
	for _, id := range []int{-1, -1 << 40, -1 << 63, 1<<40 + 1, 1 << 41, 1 << 62, 1<<63 - 1} {
		disks, _ := fresh(t, "a")
		disks[1].Lose()
		stop(disks[2])
		before := states(disks)
		expectErrno(t, "Format", mirror.Format(disks, id), api.ErrArg)
		if !slices.Equal(states(disks), before) {
			t.Error("Format has changed disks")
		}
	}
}

func TestFormatOfDisksThatAreAway(t *testing.T) {
	for i := range 3 {
		disks, _ := fresh(t, "a")
		stop(disks[i])
		before := states(disks)
		expectErrno(t, "Format", mirror.Format(disks, 1), api.ErrDown)
		if !slices.Equal(states(disks), before) {
			t.Error("Format has changed disks")
		}
		for j := range 3 {
			if i == j {
				continue
			}
			lost := copies(disks)
			lost[j].Lose()
			before := states(lost)
			expectErrno(t, "Format", mirror.Format(lost, 1), api.ErrLost)
			if !slices.Equal(states(lost), before) {
				t.Error("Format has changed disks")
			}
		}
	}
}

func TestFormatRemovesAll(t *testing.T) {
	disks, m := fresh(t, "a", "b")
	post(t, m, texts(30)...)
	expectErrno(t, "Format", mirror.Format(disks, 0), api.OK)
	expectLog(t, opened(t, disks...))
	stop(disks[0])
	expectErrno(t, "Open", opening(disks), api.OK)
	restart(disks[0])
	expectErrno(t, "Format", mirror.Format(disks, 5), api.OK)
	expectLog(t, opened(t, disks...))
	for _, d := range formatted(t, 5) {
		if !isPrefix(d, disks[0]) || !isPrefix(disks[0], d) {
			t.Errorf("%q is left on a disk, not %q", disks[0].Bytes(), d.Bytes())
		}
	}
	others := []*disk{written(strings.Repeat("x", api.MaxDisk)), written("\x00"), mirror.NewDisk()}
	others[2].Append([]byte("not safe"))
	expectErrno(t, "Format", mirror.Format(others, 0), api.OK)
	m = opened(t, others...)
	post(t, m, "c")
	expectLog(t, opened(t, others...), "c")
}

func opening(disks []*disk) api.Errno {
	_, e := mirror.Open(disks)
	return e
}

// A disk goes down in each act of Format in turn: then it is to be called again.
func TestFormatGoesDown(t *testing.T) {
	for i := range 3 {
		acts := 0
		for act := 1; act <= acts+1; act++ {
			for _, keep := range []int{0, 1, 3, all} {
				disks, _ := fresh(t, "a", "b")
				disks[i].Arm(act)
				e := mirror.Format(disks, 3)
				if isDown := disks[i].Down(); isDown != (e == api.ErrDown) || !isDown && e != api.OK {
					t.Fatalf("Format: error %d, down %t", e, isDown)
				}
				if e == api.ErrDown {
					acts = act
					expectErrno(t, "Format", mirror.Format(disks, 4), api.ErrDown)
				}
				disks[i].Restart(keep)
				opening(copies(disks)) // It is not fixed what this returns.
				expectErrno(t, "Format", mirror.Format(disks, 3), api.OK)
				m := opened(t, disks...)
				expectLog(t, m)
				post(t, m, "c")
				expectLog(t, opened(t, disks...), "c")
			}
		}
		if acts < 1 {
			t.Error("Format does nothing on a disk")
		}
	}
}

// A disk on which Format was not completed is none of a log.
func TestDiskThatIsNotFormattedCompletely(t *testing.T) {
	size := len(formatted(t, 0)[0].Bytes())
	for act := 1; act <= 3; act++ {
		for keep := range size {
			others := blank()
			others[0].Arm(act)
			if e := mirror.Format(others, 0); e != api.ErrDown {
				t.Fatalf("Format: error %d in act %d", e, act)
			}
			others[0].Restart(keep)
			before := stateOf(others[0])
			disks, _ := fresh(t, "a", "b")
			stop(disks[1])
			expectRefused(t, []*disk{disks[0], disks[1], others[0]}, api.ErrFew)
			restart(disks[1])
			m := opened(t, others[0], disks[0], disks[1])
			expectLog(t, m, "a", "b")
			expectUses(t, m, false, true, true)
			if stateOf(others[0]) != before {
				t.Fatal("a disk that is not used has changed")
			}
		}
	}
}
