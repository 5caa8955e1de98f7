package works_test

import (
	"strconv"
	"strings"
	"testing"

	"cracknel/api"
	"cracknel/works"
)

func TestLog(t *testing.T) {
	play(t, works.New(), `
> log
> post first tray
entry 0
> post
entry 1
> post # ! entry log
entry 2
> post post
entry 3
> log
entry first tray
entry
entry # ! entry log
entry post
> open
> log
entry first tray
entry
entry # ! entry log
entry post
> post 5
entry 4
> try post 6
entry 5
> try log
entry first tray
entry
entry # ! entry log
entry post
entry 5
> post 7
entry 5
> uses
uses yes yes yes
`)
}

func TestLengthOfEntry(t *testing.T) {
	w := works.New()
	for i, entry := range []string{strings.Repeat("x", api.MaxText), strings.Repeat("x ", 49) + "xx", strings.Repeat("\xff", api.MaxText)} {
		if len(entry) != api.MaxText {
			t.Fatal(len(entry))
		}
		expect(t, w, "post "+entry+"x", "! 1\n")
		expect(t, w, "post "+entry+" x", "! 1\n")
		expect(t, w, "post "+entry, "entry "+strconv.Itoa(i)+"\n")
	}
	if got := w.Line("log"); strings.Count(got, "\n") != 3 || !strings.HasPrefix(got, "entry xxx") {
		t.Errorf("log: %q", got)
	}
}

func TestDiskThatGoesDown(t *testing.T) {
	play(t, works.New(), `
> arm 1 2
> post a
entry 0
> uses
uses yes no yes
> post b
entry 1
> restart 1 0
> uses
uses yes no yes
> post c
entry 2
> open
> uses
uses yes yes yes
> arm 0 1
> arm 0 0
> arm 2 3
> post d
entry 3
> uses
uses yes yes yes
> post e
entry 4
> uses
uses yes yes no
> open
> uses
uses yes yes no
> restart 2 999999999999
> restart 0 -5
> open
> uses
uses yes yes yes
> log
entry a
entry b
entry c
entry d
entry e
> arm 1 1
> restart 1 0
> post f
entry 5
> uses
uses yes yes yes
> arm 1 1
> arm 1 -1
> post g
entry 6
> uses
uses yes yes yes
`)
}

func TestPlaces(t *testing.T) {
	w := works.New()
	for _, place := range []string{"-1", "3", "999999999999", "-999999999999"} {
		expect(t, w, "arm "+place+" 1", "! 1\n")
		expect(t, w, "restart "+place+" 1", "! 1\n")
		expect(t, w, "lose "+place, "! 1\n")
		expect(t, w, "join "+place, "! 1\n")
	}
	expect(t, w, "post x", "entry 0\n")
	for place := range 3 {
		w := works.New()
		expect(t, w, "join "+strconv.Itoa(place), "! 1\n")
		do(t, w, "lose "+strconv.Itoa(place))
		expect(t, w, "post x", "entry 0\n")
		want := "uses yes yes yes"
		want = want[:5+4*place] + "no" + want[8+4*place:] + "\n"
		expect(t, w, "uses", want)
		expect(t, w, "join 3", "! 1\n")
		for other := range 3 {
			if other != place {
				expect(t, w, "join "+strconv.Itoa(other), "! 1\n")
			}
		}
		expect(t, w, "uses", want)
		do(t, w, "restart "+strconv.Itoa(place)+" 0", "arm "+strconv.Itoa(place)+" 1", "join "+strconv.Itoa(place))
		expect(t, w, "uses", "uses yes yes yes\n")
		expect(t, w, "join "+strconv.Itoa(place), "! 1\n")
		expect(t, w, "post y", "entry 1\n")
		// The disk of that place is the new one now.
		do(t, w, "arm "+strconv.Itoa(place)+" 1")
		expect(t, w, "post z", "entry 2\n")
		expect(t, w, "uses", want)
	}
}

// A disk that has joined can be the one that is left.
func TestLossesOneAfterAnother(t *testing.T) {
	w := works.New()
	n := 0
	for round := range 9 {
		place := strconv.Itoa(round * 2 % 3)
		for range 3 {
			expect(t, w, "post x"+strconv.Itoa(n), "entry "+strconv.Itoa(n)+"\n")
			n++
		}
		do(t, w, "lose "+place, "open", "join "+place, "open")
		expect(t, w, "uses", "uses yes yes yes\n")
		log := w.Log()
		if len(log) != n || log[n-1] != "x"+strconv.Itoa(n-1) {
			t.Fatalf("the log is %q", log)
		}
	}
}

// After an open that failed there is no open mirror until one succeeds.
func TestOpenThatFails(t *testing.T) {
	w := works.New()
	play(t, w, `
> post a
entry 0
> arm 0 1
> arm 1 1
> arm 2 1
> post b
! 11
> uses
uses no no no
> log
entry a
> post c
! 7
> join 0
! 7
> open
! 11
> restart 1 0
> open
! 11
> uses
uses no no no
> log
entry a
> post c
! 7
> post
! 7
> join 0
! 7
> join 3
! 1
> try post c
! 7
> restart 0 0
> post c
! 7
> try open
> post c
! 7
> open
> uses
uses yes yes no
> log
entry a
> post c
entry 1
> join 2
> uses
uses yes yes yes
> log
entry a
entry c
> open
> post d
entry 2
`)
}

// A restart keeps as many bytes as it says: those of an entry, or too few of them.
func TestRestartKeepsBytes(t *testing.T) {
	for keep, want := range map[string]string{"1000": "entry a\nentry b\n", "999999999999": "entry a\nentry b\n", "2": "entry a\n", "0": "entry a\n", "-1": "entry a\n"} {
		w := works.New()
		expect(t, w, "post a", "entry 0\n")
		do(t, w, "arm 0 1", "arm 1 1", "arm 2 1")
		expect(t, w, "post b", "! 11\n")
		do(t, w, "restart 0 "+keep, "restart 1 "+keep, "restart 2 "+keep, "open")
		expect(t, w, "uses", "uses yes yes yes\n")
		expect(t, w, "log", want)
	}
}

// The mirror that was open before is none after an open that failed, even if it
// still used its disks.
func TestOpenThatFailsOnOpenMirror(t *testing.T) {
	w := works.New()
	play(t, w, `
> post a
entry 0
> arm 0 1
> arm 1 1
> open
! 11
> uses
uses yes yes yes
> log
entry a
> restart 0 9
> restart 1 9
> post b
! 7
> join 0
! 7
> post `+strings.Repeat("x", 101)+`
! 7
`)
	c := w.Clone()
	for _, w := range []*works.Works{w, c} {
		play(t, w, `
> uses
uses yes yes yes
> post b
! 7
> open
> uses
uses yes yes yes
> post b
entry 1
> lose 0
> lose 1
> open
! 11
> uses
uses yes yes yes
> log
entry a
entry b
> post c
! 7
> join 0
! 7
> restart 0 0
> restart 1 0
> open
! 11
> log
entry a
entry b
`)
	}
}

// The disks hold so many entries, and one that does not fit changes nothing.
func TestFullDisks(t *testing.T) {
	for _, size := range []int{0, 1, 50, 100} {
		w := works.New()
		line := strings.TrimSuffix("post "+strings.Repeat("x", size), " ")
		n := 0
		for w.Line(line) == "entry "+strconv.Itoa(n)+"\n" {
			n++
		}
		if n < (api.MaxDisk-1000)/(size+64) {
			t.Errorf("the disks hold %d entries of %d bytes", n, size)
		}
		before := w.Line("log") + w.Line("uses")
		for range 3 {
			expect(t, w, line, "! 8\n")
		}
		if w.Line("log")+w.Line("uses") != before || strings.Count(before, "\n") != n+1 {
			t.Error("an entry that does not fit has changed the log")
		}
		do(t, w, "lose 1", "open")
		expect(t, w, "log", strings.TrimSuffix(before, "uses yes yes yes\n"))
		do(t, w, "join 1", "open")
		expect(t, w, "uses", "uses yes yes yes\n")
	}
}
