package works_test

import (
	"testing"

	"cracknel/api"
	"cracknel/works"
)

func TestExamples(t *testing.T) {
	play(t, works.New(), `
> recipe unit kg
> recipe let flour = 3 [kg] / 4
> value flour
value 3/4
kg 1
`)
	play(t, works.New(), `
> cost 2 3
> row least 4 1 1
> row most 3 1 0
> blend
optimal 9
x 3 1
`)
	play(t, works.New(), `
> sheet 2 3
> cutter turn 0 0 1 0
> tile
ways 3
`)
	play(t, works.New(), `
> post first tray
entry 0
> arm 2 1
> post second
entry 1
> uses
uses yes yes no
`)
}

// What new works are.
func TestNewWorks(t *testing.T) {
	play(t, works.New(), `
> type a
! 6
> value a
! 6
> scale kg 1
! 13
> blend
! 1
> whole
! 1
> part 0 a
! 1
> tile
! 7
> tiling 0
! 7
> hole 0 0
! 7
> mean
! 6
> arc 0 0 4
> mean
mean 4
critical 0
cyclicity 1
> plant 0
! 1
> shop
! 1
> windows
! 1
> window 0 0 1
! 1
> log
> uses
uses yes yes yes
> join 0
! 1
> open
> post
entry 0
> log
entry
`)
}

// The examples as the lines of one run.
func TestExamplesAsRun(t *testing.T) {
	got, e := works.Run(`# the examples of the chapter
recipe unit kg
recipe let flour = 3 [kg] / 4
value flour

cost 2 3
row least 4 1 1
row most 3 1 0
blend
sheet 2 3
cutter turn 0 0 1 0
tile
post first tray
arm 2 1
post second
uses`)
	want := "value 3/4\nkg 1\noptimal 9\nx 3 1\nways 3\nentry 0\nentry 1\nuses yes yes no\n"
	if e != api.OK || got != want {
		t.Errorf("%q, %d, not %q", got, e, want)
	}
}

// The example of README.md.
func TestExampleOfReadme(t *testing.T) {
	play(t, works.New(), `
> sheet 2 3
> cutter turn 0 0 1 0
> tile
ways 3
> try hole 0 0
> hole 2 0
! 1
> tile
ways 3
> recipe unit kg
> recipe let flour = 3 [kg] / 4
> value flour
value 3/4
kg 1
> cost 2 3
> part 0 flour
> row least 4 1 1
> row most 3 1 0
> blend
optimal 21/4
x 3 1
> post first tray
entry 0
> arm 2 1
> post second
entry 1
> uses
uses yes yes no
`)
}
