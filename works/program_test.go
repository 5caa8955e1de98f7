package works_test

import (
	"strconv"
	"strings"
	"testing"

	"cracknel/api"
	"cracknel/works"
)

func TestBlend(t *testing.T) {
	play(t, works.New(), `
> cost 2 3
> blend
optimal 0
x 0 0
> row least 4 1 1
> blend
optimal 8
x 4 0
> row most 3 1 0
> blend
optimal 9
x 3 1
> row equal 1/2 0 1
> blend
infeasible
> clear program
> blend
! 1
> cost -1
> blend
unbounded
> row most 7/2 1
> blend
optimal -7/2
x 7/2
> cost 1 1
> blend
! 1
> cost 1
> blend
optimal 0
x 0
> row most 1
> blend
! 1
`)
	play(t, works.New(), `
> row most 1
> row least 1/2 1 2 3
> row equal -1
> blend
! 1
> cost 1 2 3
> blend
! 1
> clear program
> row least 3/2 1 2 3
> blend
! 1
> cost 1 2 5/2
> blend
optimal 5/4
x 0 0 1/2
> cost 1 2 3
> blend
optimal 3/2
x 0 0 1/2
`)
}

// Each kind of row is what its word says.
func TestKindsOfRows(t *testing.T) {
	for _, c := range []struct{ cost, kind, want string }{
		{"1", "most", "optimal 0\nx 0\n"}, {"1", "least", "optimal 5\nx 5\n"}, {"1", "equal", "optimal 5\nx 5\n"},
		{"-1", "most", "optimal -5\nx 5\n"}, {"-1", "least", "unbounded\n"}, {"-1", "equal", "optimal -5\nx 5\n"},
	} {
		w := prepared(t, "cost "+c.cost, "row "+c.kind+" 5 1")
		expect(t, w, "blend", c.want)
	}
}

func TestRowsAreLimited(t *testing.T) {
	w := prepared(t, "cost 1")
	for i := range api.MaxLimits {
		do(t, w, "row least "+strconv.Itoa(i)+" 1")
	}
	expect(t, w, "row least 100 1", "! 8\n")
	expect(t, w, "row least 100", "! 8\n")
	expect(t, w, "blend", "optimal 47\nx 47\n")
	expect(t, w, "try clear program", "")
	expect(t, w, "row least 100 1", "! 8\n")
	do(t, w, "clear program", "row least 100 1", "cost 1")
	expect(t, w, "blend", "optimal 100\nx 100\n")
}

// Costs may be more than a program has variables: blend refuses it then.
func TestManyCosts(t *testing.T) {
	w := works.New()
	for n, want := range map[int]string{1: "optimal 0\n", api.MaxVars: "optimal 0\n", api.MaxVars + 1: "! 1\n", 2000: "! 1\n"} {
		do(t, w, "cost"+strings.Repeat(" 1", n))
		if got := w.Line("blend"); !strings.HasPrefix(got, want) {
			t.Errorf("%d costs: %q", n, got)
		}
		do(t, w, "recipe unit u"+strconv.Itoa(n), "clear recipe", "recipe let a = 2", "part "+strconv.Itoa(n-1)+" a")
		expect(t, w, "part "+strconv.Itoa(n)+" a", "! 1\n")
		expect(t, w, "part -1 a", "! 1\n")
		do(t, w, "clear recipe")
	}
	do(t, w, "cost "+strings.Repeat("1", 41))
	expect(t, w, "blend", "! 1\n")
	do(t, w, "cost "+strings.Repeat("1", 40))
	expect(t, w, "blend", "optimal 0\nx 0\n")
}

func TestPart(t *testing.T) {
	play(t, works.New(), `
> recipe unit kg
> recipe let flour = 3 [kg] / 4
> recipe let bad = 1 / 0
> recipe fun f(a) = a
> part 0 flour
! 1
> cost 1 1 5
> part 0 flour
> part -1 flour
! 1
> part 3 flour
! 1
> part 3 none
! 1
> part 2 none
! 6
> part 2 kg
! 6
> part 2 f
! 1
> part 2 bad
! 4
> row equal 4 1 0 0
> row equal 4 0 0 1
> blend
optimal 23
x 4 0 4
> scale kg 1000
> blend
optimal 23
x 4 0 4
> part 0 flour
> blend
optimal 3020
x 4 0 4
> part 2 flour
> blend
optimal 6000
x 4 0 4
> try part 1 bad
! 4
> try part 2 flour
> cost 1 1 5
> blend
optimal 24
x 4 0 4
`)
}

func TestWhole(t *testing.T) {
	play(t, works.New(), `
> cost 2 3
> row least 5 2 2
> whole
! 1
> box 0 9 0 9
> whole
x 3 0
cost 6
> blend
optimal 5
x 5/2 0
> box 0 9
> whole
! 1
> box 0 1 0 9
> whole
x 1 2
cost 8
> box 0 1 0 1
> whole
! 6
> box 1 0 0 1
> whole
! 1
> box -1 0 0 1
> whole
! 1
> box 0 1000001 0 1
> whole
! 1
> box 0 1000000 0 1
> whole
x 3 0
cost 6
> cost 1/2 3
> whole
! 1
> cost -2 -3
> row most 7 1 1
> whole
x 6 1
cost -15
> try box 0 0 0 0
> whole
x 6 1
cost -15
> clear program
> whole
! 1
> cost 1 1
> whole
! 1
> box 0 1 0 1
> whole
x 0 0
cost 0
> cost 1
> whole
! 1
> box 3 4
> whole
x 3
cost 3
`)
}

func TestBags(t *testing.T) {
	play(t, works.New(), `
> bags 10 1 5 8
bags 0 2 0
> bags 7 3 5
! 6
> bags 0 3 5
bags 0 0
> bags 8 3 5
bags 1 1
> bags 5
! 1
> bags -1 3
! 1
> bags 1 0
! 1
> bags 1000001 1
! 1
> bags 1000000 2000
bags 500
> bags 1 2001
! 1
> bags 9 1 2 3 4 5 6 7 8
bags 0 0 0 1 1 0 0 0
> bags 9 1 2 3 4 5 6 7 8 9
! 1
`)
}

// What is said of the costs, the rows and the boxes is said of all three alone.
func TestPartsOfProgram(t *testing.T) {
	w := prepared(t, "row least 1 1 1", "box 0 5 1 5", "cost 1 2")
	expect(t, w, "whole", "x 0 1\ncost 2\n")
	do(t, w, "cost 3 1")
	expect(t, w, "whole", "x 0 1\ncost 1\n")
	do(t, w, "box 2 5 0 5")
	expect(t, w, "whole", "x 2 0\ncost 6\n")
	do(t, w, "row least 3 0 1")
	expect(t, w, "whole", "x 2 3\ncost 9\n")
	do(t, w, "clear recipe", "clear sheet", "clear graph", "clear plant", "clear jobs")
	expect(t, w, "whole", "x 2 3\ncost 9\n")
	expect(t, w, "blend", "optimal 3\nx 0 3\n")
}
