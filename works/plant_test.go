package works_test

import (
	"strconv"
	"strings"
	"testing"

	"cracknel/api"
	"cracknel/works"
)

func TestGraphs(t *testing.T) {
	play(t, works.New(), `
> mean
! 6
> nodes 2
> mean
! 6
> arc 0 1 3
> mean
! 6
> arc 1 0 2
> arc 0 0 2
> mean
mean 5/2
critical 0 1
cyclicity 2
> arc 1 1 -999999
> arc 1 1 3
> mean
mean 3
critical 4
cyclicity 1
> nodes 2
> mean
! 6
> arc 1 1 -3
> mean
mean -3
critical 0
cyclicity 1
> nodes 0
! 1
> nodes 17
! 1
> nodes -1
! 1
> nodes 999999999999
! 1
> mean
mean -3
critical 0
cyclicity 1
> nodes 16
> arc 15 15 0
> mean
mean 0
critical 0
cyclicity 1
> clear graph
> mean
! 6
> arc 1 0 1
> mean
! 1
> nodes 2
> arc 1 0 1
> mean
! 6
> clear graph
> arc 0 0 7
> try nodes 3
> try arc 0 0 8
> mean
mean 7
critical 0
cyclicity 1
`)
}

// Arcs are not looked at before they are used.
func TestInvalidArcs(t *testing.T) {
	for _, arc := range []string{"0 3 1", "3 0 1", "-1 0 1", "0 -1 1", "0 0 1000001", "0 0 -1000001", "0 0 999999999999"} {
		w := prepared(t, "nodes 3", "arc 0 0 1", "arc "+arc)
		expect(t, w, "mean", "! 1\n")
		do(t, w, "nodes 3", "arc 0 0 1000000")
		expect(t, w, "mean", "mean 1000000\ncritical 0\ncyclicity 1\n")
	}
}

func TestArcsAreLimited(t *testing.T) {
	w := prepared(t, "nodes 16")
	for i := range api.MaxArcs {
		do(t, w, "arc "+strconv.Itoa(i%16)+" "+strconv.Itoa((i+1)%16)+" 1")
	}
	expect(t, w, "arc 0 0 1000000", "! 8\n")
	expect(t, w, "arc 99 0 1", "! 8\n")
	got := w.Line("mean")
	if !strings.HasPrefix(got, "mean 1\ncritical 0 1 2 ") || !strings.HasSuffix(got, " 254 255\ncyclicity 16\n") {
		t.Errorf("mean: %q", got)
	}
	do(t, w, "nodes 1", "arc 0 0 1000000")
	expect(t, w, "mean", "mean 1000000\ncritical 0\ncyclicity 1\n")
}

func TestPlants(t *testing.T) {
	play(t, works.New(), `
> plant 1
! 1
> station 2
> station 3
> station 1
> plant 3
leaves 6 9 12
rate 3
> loop 0 1 1
> plant 3
leaves 6 11 16
rate 5
> plant 0
leaves
rate 5
> plant -1
! 1
> plant 1001
! 1
> loop 1 0 1
> plant 1
! 1
> clear plant
> plant 1
! 1
> loop 0 0 2
> plant 1
! 1
> station 3
> plant 2
leaves 3 6
rate 3
> try station 5
> try loop 0 0 1
> plant 2
leaves 3 6
rate 3
> station 2
> loop 0 1 2
> loop 0 1 3
> plant 4
leaves 5 8 11 14
rate 3
> station 1000001
> plant 1
! 1
`)
}

func TestPlantsAreLimited(t *testing.T) {
	w := works.New()
	for i := range api.MaxPlant {
		do(t, w, "station "+strconv.Itoa(i+1))
	}
	expect(t, w, "station 100", "! 8\n")
	expect(t, w, "station -1", "! 8\n")
	for range api.MaxPlant {
		do(t, w, "loop 0 7 2")
	}
	expect(t, w, "loop 0 7 1", "! 8\n")
	expect(t, w, "loop 9 9 9", "! 8\n")
	expect(t, w, "plant 3", "leaves 36 44 72\nrate 18\n")
	do(t, w, "clear plant", "loop 0 0 1")
	expect(t, w, "plant 1", "! 1\n")
	do(t, w, "station 4")
	expect(t, w, "plant 1", "leaves 4\nrate 4\n")
	if got := w.Line("plant 1000"); strings.Count(got, " ") != 1001 || !strings.HasSuffix(got, " 4000\nrate 4\n") {
		t.Errorf("plant 1000: %q", got)
	}
}

// Stations and loops are not looked at before they are used.
func TestInvalidPlants(t *testing.T) {
	for _, line := range []string{"station -1", "station 1000001", "loop 0 1 1", "loop -1 0 1", "loop 0 0 0", "loop 0 0 101", "loop 0 0 -1"} {
		w := prepared(t, "station 1", line)
		expect(t, w, "plant 1", "! 1\n")
	}
}

func TestJobs(t *testing.T) {
	play(t, works.New(), `
> shop
! 1
> windows
! 1
> job 2 1
> shop
load 3
job 0
> job 1 2
> shop
load 3
job 0
> windows
fits
> job 0 1
> shop
load 4
machine 1
> windows
fits
> window 0 0 3
> window 1 0 3
> windows
fits
> window 2 0 3
> windows
! 6
> window 2 9999 10000
> windows
fits
> window 2 0 10001
! 1
> window 2 -1 1
! 1
> window 2 1 1
! 1
> window 2 2 1
! 1
> window 3 0 1
! 1
> window -1 0 1
! 1
> windows
fits
> job 1
> shop
! 1
> windows
! 1
> clear jobs
> shop
! 1
> window 0 0 1
! 1
> job 1001
> shop
! 1
> clear jobs
> job -1
> shop
! 1
> windows
! 1
> clear jobs
> job 0 0
> shop
load 0
job 0
> windows
fits
`)
}

// A window is that of its job alone, and a job's window is wide at first.
func TestWindows(t *testing.T) {
	play(t, works.New(), `
> job 1000
> job 1000
> job 1000
> windows
fits
> window 1 0 1999
> windows
fits
> window 2 1000 2000
> windows
fits
> window 0 0 2000
> windows
! 6
> window 0 0 3000
> windows
fits
> try window 0 0 1
> windows
fits
> window 0 1999 2998
> windows
! 6
> clear jobs
> job 1000
> job 1000
> windows
fits
> window 1 9000 10000
> windows
fits
> window 0 9000 10000
> windows
! 6
> window 0 8000 9000
> windows
fits
`)
}

func TestJobsAreLimited(t *testing.T) {
	w := works.New()
	for range api.MaxShop {
		do(t, w, "job 1 1 1 1 1 1 1 1")
	}
	expect(t, w, "job 1 1 1 1 1 1 1 1", "! 8\n")
	expect(t, w, "job 1", "! 8\n")
	expect(t, w, "shop", "load 8\njob 0\n")
	expect(t, w, "windows", "fits\n")
	do(t, w, "window 7 0 8")
	expect(t, w, "window 8 0 8", "! 1\n")
	do(t, w, "window 7 0 7")
	expect(t, w, "windows", "! 6\n")
	do(t, w, "clear jobs", "job 1 1 1 1 1 1 1 1 1")
	expect(t, w, "shop", "! 1\n")
	do(t, w, "clear jobs", "job 3 4 5")
	expect(t, w, "shop", "load 12\njob 0\n")
	do(t, w, "job 7 7 9", "job 1 2 10")
	expect(t, w, "shop", "load 24\nmachine 2\n")
}
