package mirror_test

import (
	"math/rand"
	"slices"
	"strconv"
	"strings"
	"testing"

	"cracknel/api"
	"cracknel/mirror"
)

// spoils are ways in which a disk becomes one that is not available.
func spoils() []func(d *disk) {
	return []func(d *disk){
		func(d *disk) { stop(d) },
		(*disk).Lose,
		func(d *disk) { d.Cut(0) },
		func(d *disk) { d.Cut(3) },
	}
}

func TestOpenWithTooFew(t *testing.T) {
	expectRefused(t, blank(), api.ErrFew)
	for i := range 3 {
		for _, first := range spoils() {
			for _, second := range spoils() {
				disks, _ := fresh(t, "a")
				first(disks[(i+1)%3])
				second(disks[(i+2)%3])
				expectRefused(t, disks, api.ErrFew)
				stop(disks[i])
				expectRefused(t, disks, api.ErrFew)
			}
		}
	}
}

// The disk that is alone keeps even what was not written completely.
func TestOpenWithOneAndPartOfAnEntry(t *testing.T) {
	disks, m := fresh(t, "a")
	disks[0].Arm(1)
	post(t, m, "bcd")
	disks[0].Restart(4)
	stop(disks[1], disks[2])
	expectRefused(t, disks, api.ErrFew)
}

func TestOpenWithTwo(t *testing.T) {
	for i := range 3 {
		for _, spoil := range spoils() {
			disks, _ := fresh(t, "a", "b")
			spoil(disks[i])
			before := stateOf(disks[i])
			m := opened(t, disks...)
			expectLog(t, m, "a", "b")
			expectUses(t, m, i != 0, i != 1, i != 2)
			post(t, m, "c")
			expectSame(t, m)
			if stateOf(disks[i]) != before {
				t.Error("a disk that is not available has changed")
			}
		}
	}
}

// The places of the disks do not matter.
func TestOpenInAnyOrder(t *testing.T) {
	disks, m := fresh(t, "a")
	stop(disks[0])
	post(t, m, "b")
	restart(disks[0])
	for _, order := range [][3]int{{1, 2, 0}, {2, 1, 0}, {0, 2, 1}, {2, 0, 1}} {
		c := copies(disks)
		stop(c[2])
		m := opened(t, c[order[0]], c[order[1]], c[order[2]])
		expectLog(t, m, "a", "b")
		expectUses(t, m, order[0] != 2, order[1] != 2, order[2] != 2)
	}
}

func TestOpenWithUnlikeIDs(t *testing.T) {
	a, b := formatted(t, 1), formatted(t, 2)
	for i := range 3 {
		disks := copies(a)
		disks[i] = b[i].Clone()
		expectRefused(t, disks, api.ErrForm)
		other := (i + 1) % 3
		stop(disks[other])
		expectRefused(t, disks, api.ErrForm)
		restart(disks[other])
		stop(disks[i])
		expectUses(t, opened(t, disks...), i != 0, i != 1, i != 2)
	}
	expectRefused(t, []*disk{a[0], b[0], formatted(t, 3)[0]}, api.ErrForm)
	expectRefused(t, []*disk{a[0], formatted(t, 1<<40)[0], formatted(t, 0)[0]}, api.ErrForm)
	c := formatted(t, 3)
	c[0].Lose()
	stop(c[1])
	expectRefused(t, []*disk{a[0], c[0], c[1]}, api.ErrFew)
}

func TestOpenOfDisksWithAnyBytes(t *testing.T) {
	r := rand.New(rand.NewSource(2))
	disks, m := fresh(t, texts(5)...)
	stop(disks[2])
	opened(t, disks...)
	_ = m
	words := []string{"log", "entry", "epoch", "adopt", " ", "\n", "0", "1", "7", "-1", "9223372036854775807", "9223372036854775808", "x"}
	for range 20000 {
		var text strings.Builder
		if r.Intn(2) == 0 {
			b := disks[r.Intn(2)].Bytes()
			text.Write(b[:r.Intn(len(b)+1)])
		}
		for range r.Intn(12) {
			text.WriteString(words[r.Intn(len(words))])
		}
		some := []*disk{disks[0].Clone(), disks[1].Clone(), disks[2].Clone()}
		for range between(r, 1, 2) {
			some[r.Intn(3)] = written(text.String())
		}
		again := copies(some)
		m, e := mirror.Open(some)
		if m == nil != (e != api.OK) || e != api.OK && e != api.ErrFew && e != api.ErrForm {
			t.Fatalf("Open of %q: %v, error %d", text.String(), m != nil, e)
		}
		other, f := mirror.Open(again)
		if e != f || !slices.Equal(states(some), states(again)) || e == api.OK && !slices.Equal(m.Log(), other.Log()) {
			t.Fatalf("Open of %q differs from time to time", text.String())
		}
	}
}

func TestOpenWithoutBytesOfALog(t *testing.T) {
	for _, text := range []string{"", "x", "log", "log ", "log\n", "log \n", "log 0\n", "log 0 0", "log  0\n", "log a b\n", "log 0 0 1\n", "entry 1\na", "epoch 1\n", "\x00\xff"} {
		disks, _ := fresh(t, "a")
		disks[0] = written(text)
		m := opened(t, disks...)
		expectUses(t, m, false, true, true)
		stop(disks[1])
		expectRefused(t, disks, api.ErrFew)
	}
}

// What is no record is not part of the log, nor is what is behind it.
func TestOpenWithOtherBytesBehindALog(t *testing.T) {
	for _, text := range []string{
		"x", "\n", " \n", "log 0 0\n", "add\n", "add \n", "add 1 1\nbc", "add x\nb", "add -1\nb", "add 1", "add 30\nb",
		"new\n", "new x\n", "new 7 1\nb", "keep 7\n", "keep 7 2\n", "keep 7 1 30\n", "other 1\nb", "add 9223372036854775807\nb", "add 9223372036854775808\nb",
	} {
		disks, _ := fresh(t, "a")
		size := len(disks[0].Bytes())
		disks[0].Append([]byte(text + "add 1\nz"))
		disks[1].Append([]byte(text))
		stop(disks[2])
		m := opened(t, disks...)
		expectLog(t, m, "a")
		expectSame(t, m)
		if string(disks[0].Bytes()) != string(disks[1].Bytes()) || strings.Contains(string(disks[0].Bytes()[size:]), text+"add") {
			t.Errorf("%q is left on a disk", disks[0].Bytes())
		}
	}
}

// A disk that is behind by any number of entries is brought up to date.
func TestOpenWithDiskThatIsBehind(t *testing.T) {
	for i := range 3 {
		for n := range 40 {
			disks, m := fresh(t, "first")
			stop(disks[i])
			post(t, m, texts(n)...)
			restart(disks[i])
			log := append([]string{"first"}, texts(n)...)
			for _, away := range []int{-1, (i + 1) % 3, (i + 2) % 3} {
				c := copies(disks)
				if away >= 0 {
					stop(c[away])
				}
				m := opened(t, c...)
				expectLog(t, m, log...)
				expectUses(t, m, away != 0, away != 1, away != 2)
				expectSame(t, m)
			}
		}
	}
}

// Two disks are behind, by unlike numbers of entries.
func TestOpenWithTwoDisksThatAreBehind(t *testing.T) {
	disks, m := fresh(t, "a")
	stop(disks[0])
	post(t, m, "b", "c")
	fail(t, m, "d", 2)
	restart(disks...)
	m = opened(t, disks...)
	expectLog(t, m, "a", "b", "c", "d")
	expectSame(t, m)
}

// An entry of which the Post returned ErrFew is there or not, and then for good.
func TestOpenWithEntryOfFailedPost(t *testing.T) {
	for i := range 3 {
		disks, m := fresh(t, "a", "b")
		fail(t, m, "c", i)
		expectLog(t, m, "a", "b")
		restart(disks...)
		with := copies(disks)
		m = opened(t, with...)
		expectLog(t, m, "a", "b", "c")
		expectSame(t, m)
		stop(with[i])
		expectLog(t, opened(t, with...), "a", "b", "c")

		without := copies(disks)
		stop(without[i])
		m = opened(t, without...)
		expectLog(t, m, "a", "b")
		expectSame(t, m)
		restart(without[i])
		for _, away := range []int{-1, (i + 1) % 3, (i + 2) % 3} {
			c := copies(without)
			if away >= 0 {
				stop(c[away])
			}
			m := opened(t, c...)
			expectLog(t, m, "a", "b")
			expectSame(t, m)
		}
	}
}

// A disk comes back with an entry after others have been posted without it, as
// many as it has itself, or more, or fewer.
func TestOpenWithDiskThatComesBack(t *testing.T) {
	for i := range 3 {
		for opens := 1; opens <= 4; opens++ {
			for posts := range 4 {
				disks, m := fresh(t, "a")
				fail(t, m, "lost", i)
				restart(disks[(i+1)%3], disks[(i+2)%3])
				stop(disks[i])
				log := []string{"a"}
				for n := range opens {
					m = opened(t, disks...)
					for k := range posts {
						log = append(log, strconv.Itoa(n)+"."+strconv.Itoa(k))
						post(t, m, log[len(log)-1])
					}
				}
				restart(disks[i])
				for _, away := range []int{-1, (i + 1) % 3, (i + 2) % 3} {
					c := copies(disks)
					if away >= 0 {
						stop(c[away])
					}
					m := opened(t, c...)
					expectLog(t, m, log...)
					expectSame(t, m)
				}
			}
		}
	}
}

// The same entry again is another one.
func TestEntriesThatAreEqual(t *testing.T) {
	disks, m := fresh(t, "a", "a", "", "")
	stop(disks[0])
	post(t, m, "a", "a")
	restart(disks[0])
	m = opened(t, disks...)
	expectLog(t, m, "a", "a", "", "", "a", "a")
	fail(t, m, "a", 1)
	restart(disks...)
	stop(disks[1])
	m = opened(t, disks...)
	post(t, m, "a")
	restart(disks[1])
	expectLog(t, opened(t, disks...), "a", "a", "", "", "a", "a", "a")
}

// What was not written completely is no entry, and does not spoil those behind it.
func TestOpenAfterPartOfAnEntry(t *testing.T) {
	entry := "entry 3\nabc"
	for i := range 3 {
		disks, m := fresh(t, "a")
		size := len(disks[i].Bytes())
		disks[i].Arm(1)
		stop(disks[(i+1)%3], disks[(i+2)%3])
		expectErrno(t, "Post", m.Post(entry), api.ErrFew)
		whole := len(disks[i].Bytes()) - size
		restart(disks[(i+1)%3], disks[(i+2)%3])
		for keep := range whole + 1 {
			c := copies(disks)
			c[i].Restart(keep)
			log := []string{"a"}
			if keep == whole {
				log = append(log, entry)
			}
			stop(c[(i+1)%3])
			m := opened(t, c...)
			expectLog(t, m, log...)
			post(t, m, "b")
			expectSame(t, m)
			restart(c[(i+1)%3])
			expectLog(t, opened(t, c...), append(log, "b")...)
		}
	}
}

// prepared returns disks with a log of all, with one entry that only disk 2 lacks,
// and with one of which the Post failed on all but disk 2.
func prepared(t *testing.T) []*disk {
	t.Helper()
	disks, m := fresh(t, "a", "b")
	stop(disks[2])
	post(t, m, "c", "d")
	restart(disks[2])
	stop(disks[0])
	m = opened(t, disks...)
	fail(t, m, "e", 2)
	restart(disks...)
	return disks
}

// A disk goes down in each act of Open in turn, and comes back with any bytes: the
// log stays, and a failed entry that a log was opened without does not come back.
func TestOpenGoesDown(t *testing.T) {
	for i := range 3 {
		for _, away := range []int{-1, 0, 1, 2} {
			acts := 0
			for act := 1; act <= acts+1; act++ {
				disks := prepared(t)
				if away >= 0 {
					stop(disks[away])
				}
				disks[i].Arm(act)
				m, e := mirror.Open(disks)
				if away == i {
					break
				}
				isDown := disks[i].Down()
				if isDown {
					acts = act
				}
				want := api.OK
				if isDown && away >= 0 {
					want = api.ErrFew
				}
				expectErrno(t, "Open", e, want)
				tails := []string{"", "e"}
				if e == api.OK {
					uses := []bool{away != 0, away != 1, away != 2}
					uses[i] = !isDown
					expectUses(t, m, uses...)
					expectSame(t, m)
					tails = []string{strings.Join(m.Log(), "")[len("abcd"):]}
				}
				expectAfterCrash(t, disks, i, tails)
			}
			if away != i && acts < 1 {
				t.Error("Open does nothing on a disk")
			}
		}
	}
}

// expectAfterCrash checks what disks open to after disk i has gone down, and has
// kept any of its bytes: a, b, c, d, and one of the tails.
func expectAfterCrash(t *testing.T, disks []*disk, i int, tails []string) {
	t.Helper()
	rest := len(disks[i].Bytes()) - len(stateOf(disks[i]).safe)
	for keep := range rest + 1 {
		for away := -1; away < 3; away++ {
			c := copies(disks)
			for j, d := range c {
				if j == i {
					d.Restart(keep)
				} else {
					d.Restart(0)
				}
			}
			if away >= 0 {
				stop(c[away])
			}
			m := opened(t, c...)
			log := strings.Join(m.Log(), "")
			if !strings.HasPrefix(log, "abcd") || !slices.Contains(tails, log[len("abcd"):]) {
				t.Fatalf("the log is %q", m.Log())
			}
			expectSame(t, m)
			restart(c...)
			expectLog(t, opened(t, c...), m.Log()...)
		}
	}
}

// All disks may go down at any times of an Open.
func TestOpenGoesDownOnAll(t *testing.T) {
	for code := range 7 * 7 * 7 {
		disks := prepared(t)
		for i, act := range []int{code % 7, code / 7 % 7, code / 49} {
			disks[i].Arm(act)
		}
		m, e := mirror.Open(disks)
		up := 0
		for _, d := range disks {
			if !d.Down() {
				up++
			}
		}
		if (e == api.OK) != (up >= 2) || e != api.OK && e != api.ErrFew {
			t.Fatalf("Open: error %d with %d disks", e, up)
		}
		for _, keep := range []int{0, 5, all} {
			c := copies(disks)
			for _, d := range c {
				d.Restart(keep)
			}
			log := strings.Join(opened(t, c...).Log(), "")
			if log != "abcd" && log != "abcde" || e == api.OK && log != strings.Join(m.Log(), "") {
				t.Fatalf("the log is %q", log)
			}
		}
	}
}

// An Open that came to nothing leaves a disk with the epoch that the next one takes
// too, if that does not learn of it.
func TestOpenAfterOneThatFailed(t *testing.T) {
	for act := 1; act <= 8; act++ {
		for _, keep := range []int{0, all} {
			disks, m := fresh(t, "a")
			fail(t, m, "lost", 0)
			restart(disks...)
			stop(disks[2])
			disks[1].Arm(act)
			_, e := mirror.Open(disks)
			if e == api.OK {
				return
			}
			disks[1].Restart(keep)
			restart(disks[2])
			stop(disks[0])
			m = opened(t, disks...)
			log := append(m.Log(), "b")
			post(t, m, "b")
			restart(disks[0])
			for away := -1; away < 3; away++ {
				c := copies(disks)
				if away >= 0 {
					stop(c[away])
				}
				expectLog(t, opened(t, c...), log...)
			}
		}
	}
}

// Three disks that agree take no space, so that even a full log can be opened.
func TestOpenOfDisksThatAgree(t *testing.T) {
	disks, _ := fresh(t, "a", "b")
	before := states(disks)
	for range 10 {
		expectLog(t, opened(t, disks...), "a", "b")
	}
	if !slices.Equal(states(disks), before) {
		t.Error("Open has changed disks that agree")
	}
}

// After Open the log is safe on all disks that are used, though it was not before.
func TestOpenMakesTheLogSafe(t *testing.T) {
	for away := -1; away < 3; away++ {
		disks, _ := fresh(t, "a", "b")
		for i, d := range disks {
			loose := mirror.NewDisk()
			loose.Append(d.Bytes())
			disks[i] = loose
		}
		if away >= 0 {
			stop(disks[away])
		}
		m := opened(t, disks...)
		restart(disks...)
		expectLog(t, m, "a", "b")
		expectSame(t, m)
	}
}
