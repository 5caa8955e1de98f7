package works_test

import (
	"math/rand"
	"slices"
	"strings"
	"testing"

	"cracknel/api"
	"cracknel/works"
)

// Works that New and Clone did not return reply with one error to every line.
func TestInvalidWorks(t *testing.T) {
	made := prepared(t, "cost 1", "sheet 1 1")
	copied := *made
	overwritten := works.New()
	*overwritten = *made
	for _, w := range []*works.Works{nil, {}, new(works.Works), &copied, overwritten} {
		for _, line := range []string{"", "#", "# x", "x", " ", "uses", "blend", "post x", "try", "try uses", "\n", "recipe unit kg", strings.Repeat("x", api.MaxLine+1), "open", "clear sheet"} {
			expect(t, w, line, "! 7\n")
		}
		if w.Log() != nil || w.Clone() != nil {
			t.Errorf("%v, %v", w.Log(), w.Clone())
		}
	}
	expect(t, made, "blend", "optimal 0\nx 0\n")
	expect(t, made, "post x", "entry 0\n")
	if got := copied.Line("log"); got != "! 7\n" {
		t.Errorf("a copy of the struct: %q", got)
	}
}

// full returns works with something in each part.
func full(t *testing.T) *works.Works {
	t.Helper()
	w := prepared(t, "recipe unit kg", "recipe let flour = 3 [kg] / 4", "scale kg 2", "cost 2 3", "row least 4 1 1", "row least 1 0 1", "row most 9 1 0", "box 0 9 1 9",
		"sheet 3 2", "hole 0 0", "hole 2 0", "hole 1 0", "cutter turn 0 0 1 0", "cutter plain 0 0", "cutter plain 0 0 0 1", "nodes 2", "arc 0 1 3", "arc 1 0 2", "arc 0 0 1",
		"station 2", "station 3", "station 4", "loop 0 1 1", "loop 1 1 1", "loop 2 2 1", "job 2 1", "job 1 2", "job 0 1", "window 1 0 5", "arm 2 3")
	expect(t, w, "post a", "entry 0\n")
	expect(t, w, "post b", "entry 1\n")
	expect(t, w, "post", "entry 2\n")
	return w
}

// changes returns lines each of which changes a part of full works.
func changes() []string {
	return []string{
		"recipe let mix = flour + flour", "recipe unit cup", "scale kg 3", "cost 5 6", "row most 1 1 1", "part 0 flour", "box 1 2 1 2", "sheet 2 2", "hole 1 1", "cutter flip 0 0",
		"nodes 3", "arc 1 1 9", "station 9", "loop 0 2 1", "job 3 3", "window 0 1 2", "post c", "arm 0 1", "arm 0 2", "restart 0 0", "lose 1", "open",
		"clear recipe", "clear program", "clear sheet", "clear graph", "clear plant", "clear jobs",
	}
}

// A clone has the same state, and neither changes the other one, whatever both of
// them append to.
func TestCloneOfWorks(t *testing.T) {
	alone := map[string]string{}
	for _, line := range changes() {
		w := full(t)
		w.Line(line)
		alone[line] = view(w)
	}
	before := view(full(t))
	for _, line := range changes() {
		for _, other := range changes() {
			w := full(t)
			c := w.Clone()
			if view(c) != before {
				t.Fatal("a clone is not the same")
			}
			w.Line(line)
			if view(c) != before {
				t.Fatalf("%q has changed a clone", line)
			}
			c.Line(other)
			if view(w) != alone[line] {
				t.Fatalf("%q on a clone has changed the works after %q", other, line)
			}
			if view(c) != alone[other] {
				t.Fatalf("%q on a clone: not as on the works", other)
			}
		}
	}
}

// lists returns lines that append to each list of the works: so many of them that
// are the same for the works and a clone, and two that are not.
func lists() [][]string {
	return [][]string{
		{"recipe unit m", "recipe unit n", "recipe unit o", "recipe unit kg", "recipe unit cup"},
		{"row least 1 1", "row least 2 1", "row least 3 1", "row least 4 1", "row least 5 1", "row least 9 1", "row most 4 1"},
		{"hole 0 0", "hole 1 0", "hole 2 0", "hole 0 1", "hole 1 1", "hole 2 1", "hole 0 2", "hole 1 2"},
		{"cutter plain 0 0 1 1", "cutter plain 0 0 2 2", "cutter plain 0 0 2 1", "cutter plain 0 0 2 0", "cutter plain 0 0 1 0", "cutter plain 0 0 0 1"},
		{"arc 0 0 1", "arc 0 0 2", "arc 0 0 3", "arc 0 0 4", "arc 0 0 5", "arc 0 0 8", "arc 0 0 9"},
		{"station 1", "station 2", "station 3", "station 4", "station 5", "station 8", "station 9"},
		{"loop 0 0 1", "loop 0 1 3", "loop 1 1 2", "loop 0 1 2", "loop 1 1 1", "loop 0 0 2", "loop 0 1 1"},
		{"job 1 2", "job 2 3", "job 3 1", "job 2 2", "job 1 1", "job 5 8", "job 9 5"},
		{"post a", "post b", "post c", "post d", "post e", "post f", "post g"},
	}
}

// What works and a clone append to a list is their own, however long it is.
func TestClonesAppendApart(t *testing.T) {
	first := []string{"cost 1", "sheet 3 3", "cutter plain 0 0", "station 1", "station 4", "recipe let a = 1"}
	alone := func(lines []string, last string) string {
		w := prepared(t, first...)
		for _, line := range lines {
			w.Line(line)
		}
		w.Line(last)
		return view(w)
	}
	for _, list := range lists() {
		one, other := list[len(list)-2], list[len(list)-1]
		for n := range len(list) - 1 {
			w := prepared(t, first...)
			for _, line := range list[:n] {
				w.Line(line)
			}
			c := w.Clone()
			w.Line(one)
			c.Line(other)
			if alone(list[:n], one) == alone(list[:n], other) {
				t.Errorf("%q and %q: the view is the same", one, other)
			}
			if view(w) != alone(list[:n], one) || view(c) != alone(list[:n], other) {
				t.Errorf("after %q, %q and %q on a clone: not as alone", list[:n], one, other)
			}
		}
	}
}

// Most of these lines do change what works reply, so that the view sees what is
// changed.
func TestViewSeesChanges(t *testing.T) {
	before := view(full(t))
	for _, line := range changes() {
		w := full(t)
		w.Line(line)
		isSame := line == "restart 0 0" || line == "open"
		if (view(w) == before) != isSame {
			t.Errorf("%q: the view is the same: %t", line, view(w) == before)
		}
	}
}

// Clones of clones, with many changes on each of them, are as if each one had been
// made alone.
func TestManyClones(t *testing.T) {
	r := rand.New(rand.NewSource(3))
	type branch struct {
		w     *works.Works
		lines []string
	}
	branches := []branch{{works.New(), nil}}
	for range 300 {
		b := branches[r.Intn(len(branches))]
		if r.Intn(4) == 0 && len(branches) < 8 {
			branches = append(branches, branch{b.w.Clone(), slices.Clone(b.lines)})
			continue
		}
		for i := range branches {
			if branches[i].w == b.w {
				line := randomLine(r)
				b.w.Line(line)
				branches[i].lines = append(branches[i].lines, line)
			}
		}
	}
	for _, b := range branches {
		alone := works.New()
		for _, line := range b.lines {
			alone.Line(line)
		}
		if view(alone) != view(b.w) {
			t.Errorf("after %q a clone is not what works alone are", b.lines)
		}
	}
}

func TestLogIsNewMemory(t *testing.T) {
	w := full(t)
	log := w.Log()
	if !slices.Equal(log, []string{"a", "b", ""}) {
		t.Fatalf("the log is %q", log)
	}
	log[0] = "x"
	_ = append(log[:1], "y")
	w.Line("post c")
	if got := w.Log(); !slices.Equal(got, []string{"a", "b", "", "c"}) || log[1] != "y" {
		t.Errorf("the log is %q", got)
	}
	if len(works.New().Log()) != 0 {
		t.Error("new works have entries")
	}
}

// The log is that of the mirror that was open last, also after an open that failed.
func TestLogAfterFailure(t *testing.T) {
	w := full(t)
	w.Line("lose 0")
	w.Line("lose 1")
	expect(t, w, "open", "! 11\n")
	if got := w.Log(); !slices.Equal(got, []string{"a", "b", ""}) {
		t.Errorf("the log is %q", got)
	}
	if got := w.Clone().Log(); !slices.Equal(got, []string{"a", "b", ""}) {
		t.Errorf("the log of a clone is %q", got)
	}
}

// Replies depend on nothing but the lines.
func TestRepeatedLines(t *testing.T) {
	var lines []string
	r := rand.New(rand.NewSource(4))
	for range 400 {
		lines = append(lines, randomLine(r))
	}
	first, e := works.Run(strings.Join(lines, "\n"))
	if e != api.OK || len(first) < 1000 {
		t.Fatalf("%d, %q", e, first)
	}
	for range 5 {
		if again, _ := works.Run(strings.Join(lines, "\n")); again != first {
			t.Fatal("the same lines have replied with something else")
		}
	}
}

// Every line, whatever its bytes, has a reply of whole lines.
func TestAnyBytes(t *testing.T) {
	r := rand.New(rand.NewSource(5))
	w := full(t)
	for range 20000 {
		line := randomLine(r)
		b := []byte(line)
		for range 1 + r.Intn(3) {
			at := r.Intn(len(b) + 1)
			switch r.Intn(3) {
			case 0:
				b = slices.Insert(b, at, byte(r.Intn(256)))
			case 1:
				b = slices.Insert(b, at, " -0/1#\n\t[]try"[r.Intn(13)])
			default:
				b = slices.Delete(b, at, min(at+1+r.Intn(3), len(b)))
			}
		}
		reply := w.Line(string(b))
		if reply != "" && reply[len(reply)-1] != '\n' || strings.Contains(reply, "\n\n") || strings.HasPrefix(reply, "\n") {
			t.Errorf("%q: %q", b, reply)
		}
		if isError(reply) && strings.Count(reply, "\n") != 1 {
			t.Errorf("%q: %q", b, reply)
		}
	}
}
