package mirror_test

import (
	"math/rand"
	"slices"
	"strings"
	"testing"

	"cracknel/api"
	"cracknel/mirror"
)

// expectPost posts an entry, and checks that a mirror's view is as before if there is
// an error.
func expectPost(t *testing.T, m *mirror.Mirror, entry string, want api.Errno) {
	t.Helper()
	before := viewOf(m)
	if e := m.Post(entry); e != want {
		t.Fatalf("Post of %d bytes: error %d, not %d", len(entry), e, want)
	}
	if want != api.OK && viewOf(m) != before {
		t.Fatalf("Post with the error %d has changed something", want)
	}
}

func TestPost(t *testing.T) {
	disks, m := fresh(t)
	var log []string
	for _, entry := range []string{"a", "", "a", "\n", "entry 1\nx", "log 0 0\n", "\x00\xff\xfe", " ", "ä", strings.Repeat("z", api.MaxText), ""} {
		post(t, m, entry)
		log = append(log, entry)
		expectLog(t, m, log...)
		expectUses(t, m, true, true, true)
		expectSame(t, m)
		for away := range 3 {
			c := copies(disks)
			c[away].Lose()
			expectLog(t, opened(t, c...), log...)
		}
	}
}

func TestPostOfAnyBytes(t *testing.T) {
	const some = "\n \x00\xff0159entryadoptepochlog"
	r := rand.New(rand.NewSource(3))
	for range 200 {
		disks, m := fresh(t)
		var log []string
		for range r.Intn(30) {
			entry := make([]byte, r.Intn(api.MaxText+1))
			for i := range entry {
				entry[i] = some[r.Intn(len(some))]
			}
			log = append(log, string(entry))
			post(t, m, string(entry))
		}
		disks[r.Intn(3)].Lose()
		m = opened(t, disks...)
		expectLog(t, m, log...)
		expectSame(t, m)
	}
}

func TestPostOfLongEntries(t *testing.T) {
	for _, n := range []int{api.MaxText + 1, api.MaxText + 2, 1000, api.MaxDisk, 1 << 20} {
		_, m := fresh(t, "a")
		expectPost(t, m, strings.Repeat("x", n), api.ErrArg)
		post(t, m, strings.Repeat("x", api.MaxText))
	}
}

// An acknowledged entry is safe on each disk that is used.
func TestPostIsSafe(t *testing.T) {
	disks, m := fresh(t, "a")
	restart(disks...)
	post(t, m, "b")
	restart(disks...)
	for _, d := range disks {
		if got := logOf(t, d); !slices.Equal(got, []string{"a", "b"}) {
			t.Errorf("a disk has the log %q", got)
		}
	}
}

// A disk goes down in each act of Post, or is down or lost before.
func TestPostWithTwo(t *testing.T) {
	for i := range 3 {
		acts := 0
		for act := -1; act <= acts+1; act++ {
			disks, m := fresh(t, "a")
			switch act {
			case -1:
				disks[i].Lose()
			case 0:
				stop(disks[i])
			default:
				disks[i].Arm(act)
			}
			post(t, m, "b")
			if act > 0 && disks[i].Down() {
				acts = act
			}
			isUsed := !disks[i].Down() && !disks[i].Lost()
			want := []bool{true, true, true}
			want[i] = isUsed
			expectUses(t, m, want...)
			expectLog(t, m, "a", "b")
			restart(disks[i])
			before := stateOf(disks[i])
			post(t, m, "c")
			if isUsed == (string(disks[i].Bytes()) == before.bytes) {
				t.Fatalf("disk %d was %+v, and is %+v", i, before, stateOf(disks[i]))
			}
			for away := range 3 {
				c := copies(disks)
				stop(c[away])
				if !c[i].Lost() || away == i {
					expectLog(t, opened(t, c...), "a", "b", "c")
				}
			}
		}
		if acts < 2 {
			t.Errorf("Post does %d acts on a disk", acts)
		}
	}
}

func TestPostWithOne(t *testing.T) {
	for i := range 3 {
		for first := -1; first <= 2; first++ {
			for second := -1; second <= 2; second++ {
				disks, m := fresh(t, "a")
				for n, act := range []int{first, second} {
					d := disks[(i+1+n)%3]
					switch act {
					case -1:
						d.Lose()
					case 0:
						stop(d)
					default:
						d.Arm(act)
					}
				}
				if e := m.Post("b"); e != api.ErrFew || !m.Broken() {
					t.Fatalf("Post: error %d", e)
				}
				expectLog(t, m, "a")
				expectUses(t, m, i == 0, i == 1, i == 2)
				if got := logOf(t, disks[i]); !slices.Equal(got, []string{"a", "b"}) {
					t.Errorf("the disk that is left has the log %q", got)
				}
			}
		}
	}
}

func TestBrokenMirror(t *testing.T) {
	disks, m := fresh(t, "a", "b")
	fail(t, m, "c", 1)
	restart(disks...)
	for _, n := range []int{0, 1, api.MaxText, api.MaxText + 1} {
		expectPost(t, m, strings.Repeat("x", n), api.ErrState)
	}
	for i := -1; i <= 3; i++ {
		for _, d := range []*disk{nil, new(disk), mirror.NewDisk(), written("x"), disks[0]} {
			expectJoin(t, m, i, d, api.ErrState)
		}
	}
	if !m.Broken() || !m.Clone().Broken() {
		t.Error("the mirror is not broken")
	}
	expectLog(t, m, "a", "b")
	expectLog(t, m.Clone(), "a", "b")
	expectUses(t, m, false, true, false)
	if !slices.Equal(m.Disks(), disks) {
		t.Error("the disks of a broken mirror are others")
	}
	_, m = fresh(t)
	fail(t, m, "")
	expectUses(t, m, false, false, false)
	expectLog(t, m)
	expectPost(t, m, "x", api.ErrState)
}

// fill posts entries of n bytes until one does not fit any more, and returns how
// many have been posted.
func fill(t *testing.T, m *mirror.Mirror, n int) int {
	t.Helper()
	entry := strings.Repeat("x", n)
	for count := 0; ; count++ {
		before := sizes(m.Disks())
		e := m.Post(entry)
		switch {
		case e == api.ErrFull && slices.Equal(sizes(m.Disks()), before):
			expectPost(t, m, entry, api.ErrFull)
			return count
		case e != api.OK || count > api.MaxDisk:
			t.Fatalf("Post: error %d", e)
		}
	}
}

// room returns how many bytes the fullest of the disks that are used can take.
func room(m *mirror.Mirror) int {
	out := api.MaxDisk
	for i, isUsed := range m.Uses() {
		if isUsed {
			out = min(out, api.MaxDisk-len(m.Disks()[i].Bytes()))
		}
	}
	return out
}

func TestPostUntilDisksAreFull(t *testing.T) {
	disks, m := fresh(t)
	count := fill(t, m, api.MaxText)
	if count < (api.MaxDisk-512)/(api.MaxText+64) || room(m) >= api.MaxText+64 {
		t.Errorf("%d entries fit; there is room for %d bytes", count, room(m))
	}
	for n := api.MaxText - 1; n >= 0; n-- {
		count += fill(t, m, n)
		if room(m) >= n+64 {
			t.Fatalf("%d bytes do not fit into %d", n, room(m))
		}
	}
	expectPost(t, m, strings.Repeat("x", api.MaxText+1), api.ErrArg)
	for range 3 { // As the disks agree.
		m = opened(t, disks...)
		if len(m.Log()) != count {
			t.Fatalf("%d entries are left of %d", len(m.Log()), count)
		}
		expectPost(t, m, "", api.ErrFull)
	}
	disks[0].Lose()
	expectPost(t, m, "", api.ErrFull)
}

// The disk with the most bytes decides, though the others have room.
func TestPostOnUnlikeDisks(t *testing.T) {
	for i := range 3 {
		disks, m := fresh(t, "a")
		for range 40 { // Disk i keeps entries that are not in the log.
			fail(t, m, strings.Repeat("y", api.MaxText), i)
			restart(disks...)
			stop(disks[i])
			opened(t, disks...)
			restart(disks[i])
			m = opened(t, disks...)
			expectUses(t, m, true, true, true)
		}
		expectLog(t, m, "a")
		fill(t, m, api.MaxText)
		if left := api.MaxDisk - len(disks[i].Bytes()); room(m) != left || left >= api.MaxText+64 {
			t.Errorf("there is room for %d bytes, on the fullest disk for %d", room(m), left)
		}
		other := api.MaxDisk - len(disks[(i+1)%3].Bytes())
		if other < 1000 {
			t.Errorf("all disks are full")
		}
		stop(disks[i])
		expectPost(t, m, strings.Repeat("x", api.MaxText), api.ErrFull)
		expectUses(t, m, true, true, true)
		disks[i].Lose() // Its bytes are gone.
		post(t, m, strings.Repeat("x", api.MaxText))
		if fill(t, m, api.MaxText) < 5 || m.Uses()[i] {
			t.Error("the room on the other disks is not used")
		}
	}
}
