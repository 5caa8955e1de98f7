package works_test

import (
	"math/rand"
	"strings"
	"testing"

	"cracknel/api"
	"cracknel/works"
)

func expectRun(t *testing.T, s, want string, wantErrno api.Errno) {
	t.Helper()
	if got, e := works.Run(s); got != want || e != wantErrno {
		t.Errorf("%.100q: %.100q, %d, not %.100q, %d", s, got, e, want, wantErrno)
	}
}

func TestRun(t *testing.T) {
	expectRun(t, "", "", api.OK)
	expectRun(t, "\n", "", api.OK)
	expectRun(t, "#", "", api.OK)
	expectRun(t, "log", "", api.OK)
	expectRun(t, "uses", "uses yes yes yes\n", api.OK)
	expectRun(t, "uses\n", "uses yes yes yes\n", api.OK)
	expectRun(t, "\n\nuses\n\n\n", "uses yes yes yes\n", api.OK)
	expectRun(t, "uses\nuses", "uses yes yes yes\nuses yes yes yes\n", api.OK)
	expectRun(t, "uses\r\nuses", "! 2\nuses yes yes yes\n", api.OK)
	expectRun(t, "x\ny\n\nz", "! 2\n! 2\n! 2\n", api.OK)
	expectRun(t, " \n \n ", "! 2\n! 2\n! 2\n", api.OK)
	expectRun(t, "post a\npost b\nlog", "entry 0\nentry 1\nentry a\nentry b\n", api.OK)
	expectRun(t, "post a\n"+strings.Repeat("x", api.MaxLine+1)+"\nlog", "entry 0\n! 3\nentry a\n", api.OK)
	expectRun(t, strings.Repeat("x", api.MaxLine+1), "! 3\n", api.OK)
}

// A run has at most 2000 lines, empty ones and comments included.
func TestLinesOfRun(t *testing.T) {
	for _, line := range []string{"", "#", "uses", "x", "try uses"} {
		reply := works.New().Line(line)
		lines := strings.Repeat(line+"\n", api.MaxLines)
		all := strings.Repeat(reply, api.MaxLines)
		expectRun(t, lines, all, api.OK)
		expectRun(t, lines[:len(lines)-1], strings.Repeat(reply, api.MaxLines-1)+map[bool]string{true: reply}[line != ""], api.OK)
		expectRun(t, lines+"x", "", api.ErrLong)
		expectRun(t, lines+"#", "", api.ErrLong)
		expectRun(t, lines+"\n", "", api.ErrLong)
		expectRun(t, lines+lines, "", api.ErrLong)
	}
	expectRun(t, strings.Repeat("\n", api.MaxLines), "", api.OK)
	expectRun(t, strings.Repeat("\n", api.MaxLines)+"x", "", api.ErrLong)
	expectRun(t, strings.Repeat("\n", api.MaxLines-1)+"uses", "uses yes yes yes\n", api.OK)
	expectRun(t, strings.Repeat("\n", 50_000_000), "", api.ErrLong)
	expectRun(t, strings.Repeat("x", 50_000_000), "! 3\n", api.OK)
}

// A run replies with what its lines reply with on new works, one after the other.
func TestRunIsItsLines(t *testing.T) {
	r := rand.New(rand.NewSource(6))
	for range 30 {
		w := works.New()
		var lines, replies strings.Builder
		for range 60 {
			line := randomLine(r)
			lines.WriteString(line + "\n")
			replies.WriteString(w.Line(line))
		}
		text := lines.String()
		expectRun(t, text, replies.String(), api.OK)
		expectRun(t, text[:len(text)-1], replies.String(), api.OK)
	}
}
