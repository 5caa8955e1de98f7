package works_test

import (
	"math/rand"
	"strconv"
	"strings"
	"testing"

	"cracknel/works"
)

// play does the lines of a text that begin with "> ", and expects each of them to
// reply with the lines that follow it.
func play(t *testing.T, w *works.Works, text string) {
	t.Helper()
	line, want, isLine := "", "", false
	check := func() {
		t.Helper()
		if isLine {
			expect(t, w, line, want)
		}
	}
	for part := range strings.Lines(strings.TrimLeft(text, "\n")) {
		next, isNext := strings.CutPrefix(part, "> ")
		if !isNext {
			want += part
			continue
		}
		check()
		line, want, isLine = strings.TrimSuffix(next, "\n"), "", true
	}
	check()
}

// expect does a line and expects a reply.
func expect(t *testing.T, w *works.Works, line, want string) {
	t.Helper()
	if got := w.Line(line); got != want {
		t.Errorf("%.200q: reply %q, not %q", line, got, want)
	}
}

// do does lines that must reply with nothing.
func do(t *testing.T, w *works.Works, lines ...string) {
	t.Helper()
	for _, line := range lines {
		expect(t, w, line, "")
	}
}

// prepared returns works that have been told some lines.
func prepared(t *testing.T, lines ...string) *works.Works {
	t.Helper()
	w := works.New()
	do(t, w, lines...)
	return w
}

func isError(reply string) bool { return strings.HasPrefix(reply, "! ") }

// questions are lines that change nothing, whose replies together tell all of the
// state, or nearly so.
func questions() []string {
	out := []string{"blend", "whole", "tile", "tiling 0", "mean", "plant 3", "shop", "windows", "log", "uses"}
	for _, name := range []string{"a", "b", "flour", "mix", "kg", "cup"} {
		out = append(out, "type "+name, "value "+name)
	}
	for _, line := range []string{"cost 1", "hole 0 0", "hole 1 1", "cutter plain 0 0", "arc 0 0 1", "station 1", "loop 0 0 1", "job 1", "row most 1 1", "post x", "open", "join 0", "join 1", "join 2"} {
		out = append(out, "try "+line)
	}
	for place := range 3 {
		out = append(out, "try scale kg "+strconv.Itoa(place))
	}
	return out
}

// view returns what works reply to all questions, and what they do when their disks
// are used.
func view(w *works.Works) string {
	var out strings.Builder
	for _, line := range questions() {
		out.WriteString(line + ": " + w.Line(line))
	}
	for _, script := range []string{
		"post x,post y,post z,uses,log", "open,uses,log,post x,uses", "restart 0 9,restart 1 0,restart 2 5,open,uses,log,post x,post y",
		"lose 0,open,uses,log,join 0,post q,uses", "sheet 3 2,tile,tiling 1", "nodes 3,arc 0 0 5,mean", "cost 1,box 0 3,whole,blend",
		"recipe unit zz,recipe let z = 2 [zz],value z,scale zz 5,value z,type z", "job 1 1,window 0 0 1,shop,windows", "station 4,plant 2",
	} {
		c := w.Clone()
		for _, line := range strings.Split(script, ",") {
			out.WriteString(line + ": " + c.Line(line))
		}
	}
	return out.String()
}

// pick returns one of some words.
func pick(r *rand.Rand, words string) string {
	list := strings.Fields(words)
	return list[r.Intn(len(list))]
}

// several returns so many results of a function, separated by blanks.
func several(n int, word func() string) string {
	list := make([]string, n)
	for i := range list {
		list[i] = word()
	}
	return strings.Join(list, " ")
}
