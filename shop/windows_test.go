package shop_test

import (
	"math/rand"
	"slices"
	"strings"
	"testing"

	"cracknel/api"
	"cracknel/blend"
	"cracknel/shop"
)

// someWindows returns random windows below a time.
func someWindows(r *rand.Rand, jobs, last int) (release, due []int) {
	for range jobs {
		at := r.Intn(last)
		release = append(release, at)
		due = append(due, between(r, at+1, last))
	}
	return release, due
}

// someFull returns the work that a random schedule does in windows, whose machines
// are never idle as long as there are jobs for them.
func someFull(r *rand.Rand, machines int, release, due []int) grid {
	table := filled(len(release), machines, 0)
	at := timesOf(release, due)
	for k := range len(at) - 1 {
		for left := at[k+1] - at[k]; left > 0; {
			length := between(r, 1, left)
			left -= length
			order := r.Perm(machines)
			for _, job := range r.Perm(len(release)) {
				if len(order) > 0 && release[job] <= at[k] && due[job] >= at[k+1] {
					table[job][order[0]] += length
					order = order[1:]
				}
			}
		}
	}
	return table
}

func TestWindows(t *testing.T) {
	table := times("2 1, 1 2")
	expectWindows(t, table, ints("0 0"), ints("3 3"))
	expectWindows(t, table, ints("0 0"), ints("10000 10000"))
	expectWindows(t, table, ints("0 1"), ints("3 5"))
	expectNoWindows(t, table, ints("0 0"), ints("2 2"))
	expectNoWindows(t, table, ints("0 0"), ints("2 9"))
	expectNoWindows(t, table, ints("0 0"), ints("3 2"))
	expectNoWindows(t, times("1, 1"), ints("0 0"), ints("1 1"))
	expectWindows(t, times("1, 1"), ints("0 0"), ints("2 2"))
	expectWindows(t, times("1, 1"), ints("0 0"), ints("1 2"))
	expectWindows(t, times("7"), ints("9993"), ints("10000"))
	expectNoWindows(t, times("8"), ints("9993"), ints("10000"))
	expectWindows(t, times("1000"), ints("0"), ints("1000"))
	expectNoWindows(t, times("1000"), ints("0"), ints("999"))
}

// Windows that overlap, that are apart, that only touch, and that leave intervals
// in which no job may be worked on.
func TestPlacesOfWindows(t *testing.T) {
	two := times("3, 3")
	for _, c := range []struct {
		release, due string
		want         bool
	}{
		{"0 2", "3 6", true}, {"0 2", "4 5", false}, {"0 2", "4 6", true}, // overlapping
		{"0 3", "3 6", true}, {"3 0", "6 3", true}, {"0 3", "2 6", false}, {"0 3", "3 5", false}, // touching
		{"0 5", "3 8", true}, {"5 0", "8 3", true}, {"0 50", "3 52", false}, {"0 9000", "4 10000", true}, // apart
		{"0 1", "7 4", true}, {"0 1", "6 4", true}, {"0 1", "5 4", false}, {"0 0", "6 3", true}, // one in another
	} {
		release, due := ints(c.release), ints(c.due)
		if !c.want {
			expectNoWindows(t, two, release, due)
			continue
		}
		p := expectWindows(t, two, release, due)
		if at := timesOf(release, due); at[1] == due[0] && at[2] == release[1] && len(p[1]) > 0 {
			t.Errorf("windows %v, %v: a plan between them: %v", release, due, p)
		}
	}
	// Nothing is to be done, or nothing of some jobs, which have windows all the same.
	for _, p := range expectWindows(t, filled(3, 2, 0), ints("0 5 9"), ints("1 9 10")) {
		if len(p) > 0 {
			t.Errorf("no work is done by %v", p)
		}
	}
	if p := expectWindows(t, times("0 0, 4 0"), ints("0 2"), ints("3 9")); len(p) != 3 || len(p[0]) > 0 {
		t.Errorf("four intervals: %v", p)
	}
	expectNoWindows(t, times("0 0, 8 0"), ints("0 2"), ints("3 9"))
}

// On one machine there is a plan exactly if no stretch of time has more work whose
// windows lie in it than time; and so for one job.
func TestSingleMachines(t *testing.T) {
	r := rand.New(rand.NewSource(7))
	isEnough := func(table grid, release, due []int) bool {
		for _, from := range release {
			for _, to := range due {
				work := 0
				for job, row := range table {
					if release[job] >= from && due[job] <= to {
						work += row[0]
					}
				}
				if work > max(0, to-from) {
					return false
				}
			}
		}
		return true
	}
	counts := map[bool]int{}
	for range 2000 {
		table := someTable(r, between(r, 1, 8), 1, 6, 2)
		release, due := someWindows(r, len(table), 30)
		ok := isEnough(table, release, due)
		if counts[ok]++; ok {
			expectWindows(t, table, release, due)
		} else {
			expectNoWindows(t, table, release, due)
		}
		row := someTable(r, 1, between(r, 1, 8), 6, 2)
		jobs, _ := loadsOf(row)
		if jobs[0] <= due[0]-release[0] {
			expectWindows(t, row, release[:1], due[:1])
		} else {
			expectNoWindows(t, row, release[:1], due[:1])
		}
	}
	if counts[true] < 500 || counts[false] < 500 {
		t.Errorf("plans: %v", counts)
	}
}

// O3: there is a plan exactly if the program has a point; and exactly one of
// Windows and Refuse returns ErrNone, unless there is no work, or too much for
// Refuse.
func TestProofs(t *testing.T) {
	r := rand.New(rand.NewSource(8))
	counts := map[api.Errno]int{}
	for range 3000 {
		table := someTable(r, between(r, 1, 6), between(r, 1, 6), 4, between(r, 3, 9))
		release, due := someWindows(r, len(table), between(r, 2, 12))
		program, e := shop.Program(table, release, due)
		if e != api.OK {
			y, f := shop.Refuse(table, release, due)
			expectError(t, "Refuse", y, f, e)
			continue
		}
		answer, f := blend.Solve(program)
		y, e := shop.Refuse(table, release, due)
		counts[e]++
		if f != api.OK || (answer.Kind == api.Infeasible) != (e == api.OK) {
			t.Fatalf("Refuse(%v, %v, %v): error %d, and the answer is %v, error %d", table, release, due, e, answer, f)
		}
		if e == api.ErrNone {
			expectError(t, "Refuse", y, e, e)
			expectWindows(t, table, release, due)
			continue
		}
		expectNoWindows(t, table, release, due)
		if ok, f := blend.Right(program, api.Answer{Kind: api.Infeasible, Y: y}); !ok || f != api.OK {
			t.Errorf("Refuse(%v, %v, %v) = %v, which is not right", table, release, due, y)
		}
	}
	if counts[api.OK] < 300 || counts[api.ErrNone] < 300 {
		t.Errorf("errors: %v", counts)
	}
}

// O4: windows that are just wide enough, and that are too narrow by one.
func TestWideWindows(t *testing.T) {
	r := rand.New(rand.NewSource(9))
	for range 400 {
		table := someTable(r, between(r, 1, 8), between(r, 1, 8), 3, r.Intn(9))
		load, _, _, _ := shop.Bound(table)
		release := make([]int, len(table))
		wide, narrow := slices.Clone(release), slices.Clone(release)
		for job := range table {
			wide[job] = between(r, max(load, 1), load+3)
			narrow[job] = between(r, 1, max(load-1, 1))
		}
		expectWindows(t, table, release, wide)
		expectWindows(t, table, release, slices.Repeat([]int{max(load, 1)}, len(table)))
		if load > 1 {
			expectNoWindows(t, table, release, narrow)
			expectNoWindows(t, table, release, slices.Repeat([]int{load - 1}, len(table)))
		}
	}
	release := make([]int, 8)
	expectWindows(t, filled(8, 8, 1000), release, slices.Repeat([]int{8000}, 8))
	expectWindows(t, filled(8, 8, 1000), release, ints("8000 8001 8002 8003 8004 8005 8006 8007"))
	expectNoWindows(t, filled(8, 8, 1000), release, slices.Repeat([]int{7999}, 8))
	expectNoWindows(t, filled(8, 8, 1000), release, ints("7999 7998 7997 7996 7995 7994 7993 1"))
}

// With all jobs, all machines and as many intervals as there may be: there is a plan
// for the work of a schedule, and none for more, where there is no more time.
func TestFullWindows(t *testing.T) {
	r := rand.New(rand.NewSource(10))
	for range 40 {
		var release, due []int
		for job := range 8 {
			release = append(release, 100*job+between(r, 1, 99))
			due = append(due, 1000+100*job+between(r, 1, 99))
		}
		table := someFull(r, 8, release, due)
		if p := expectWindows(t, table, release, due); len(p) != 15 {
			t.Fatalf("%d intervals", len(p))
		}
		// The first job is worked on in all of its window.
		jobs, _ := loadsOf(table)
		if jobs[0] == due[0]-release[0] {
			table[0][r.Intn(8)]++
			expectNoWindows(t, table, release, due)
		}
	}
	for range 300 {
		machines := between(r, 1, 8)
		release, due := someWindows(r, between(r, 1, 8), []int{5, 20, 1000}[r.Intn(3)])
		expectWindows(t, someFull(r, machines, release, due), release, due)
	}
}

// isInSlots reports whether all work, which has times 0 and 1, can be done in whole
// slots of the length 1.
func isInSlots(table grid, release, due []int) bool {
	type spot struct{ kind, number, slot int }
	taken := map[spot]bool{}
	var place func(i int) bool
	place = func(i int) bool {
		job, machine := i/len(table[0]), i%len(table[0])
		if job == len(table) {
			return true
		}
		if table[job][machine] == 0 {
			return place(i + 1)
		}
		for slot := release[job]; slot < due[job]; slot++ {
			a, b := spot{0, job, slot}, spot{1, machine, slot}
			if taken[a] || taken[b] {
				continue
			}
			taken[a], taken[b] = true, true
			if place(i + 1) {
				return true
			}
			taken[a], taken[b] = false, false
		}
		return false
	}
	return place(0)
}

// There are plans that do without fractions, and others that do not.
func TestPlansOfFractions(t *testing.T) {
	table := times("0 1 0 0 1, 1 0 0 1 0, 1 0 1 0 1, 1 1 0 0 0, 0 0 0 1 1")
	release, due := ints("0 0 0 1 1"), ints("2 2 3 3 3")
	if isInSlots(table, release, due) {
		t.Error("it can be done in whole slots")
	}
	isFraction := func(s shift) bool { return strings.Contains(string(s.Length), "/") }
	if p := expectWindows(t, table, release, due); !slices.ContainsFunc(slices.Concat(p...), isFraction) {
		t.Errorf("no fraction in %v", p)
	}
}

func TestFits(t *testing.T) {
	table := times("2 1, 1 2")
	release, due := ints("0 1"), ints("4 5") // 0 to 1, 1 to 4, 4 to 5
	for _, text := range []string{
		"1 0 -1; 1 0 1, 1 1 0; 1 -1 1", "; 2 0 1, 1 1 0; ", "; 1 0 1, 1 1 0, 1 0 1; ", "1/2 0 -1; 3/2 0 1, 1 1 0; 1/2 -1 1", "1 -1 0; 2 0 1, 1 1 -1;",
		"1 -1 -1; 2 0 1, 1 1 0; 1 -1 -1", "1/3 0 -1, 2/3 -1 -1; 5/3 0 1, 1 1 0, 1/3 -1 1;",
	} {
		expectFits(t, table, release, due, intervals(text), true)
	}
	for _, text := range []string{
		// Too few intervals, and too many.
		"", "2 0 1, 1 1 0", "; 2 0 1, 1 1 0", "; 2 0 1, 1 1 0; ; ", "2 0 1, 1 1 0; ; ",
		// Outside of a window.
		"1 1 -1; 2 0 1, 1 -1 0;", "; 2 0 1, 1 1 -1; 1 -1 0", "; ; 2 0 1, 1 1 0", "1 0 1; 1 0 1, 1 1 0;", "1/9 -1 1; 2 0 1, 1 1 0;",
		// Longer than an interval.
		"3/2 0 -1; 1/2 0 1, 1 1 0; 3/2 -1 1", "; 2 0 -1, 1 1 0, 2 -1 1;", "; 2 0 1, 1 1 0, 1/999 -1 -1; ", "; 2 0 1, 1 1 0; 1001/1000 -1 -1", "2 0 -1; 2 -1 1, 1 1 0;",
		// Too much work, too little, another's.
		"; 2 0 1; ", "; 2 0 1, 1 1 0; 1 -1 1", "; 2 0 1, 1/2 1 0; ", "; 2 1 0, 1 0 1; ", ";;",
		// Schedules that are not valid.
		"; 2 0 1, 1 1 0, 0 -1 -1; ", "; 3 0 1, 1 1 0, -1 0 1; ", "; 2 0 1, 1 1 0; 1", "; 2 0 1 -1, 1 1 0; ", "; 2/1 0 1, 1 1 0; ", "; 2 0 1, 1 1 0, 1 0 0; ", "; 2 0 1, 1 1 0, 1 2 -1; ", "; 2 0 1, 1 1 0; x -1 -1", "; 2 0 1, 1 1 0; 1 -2 -1",
	} {
		expectFits(t, table, release, due, intervals(text), false)
	}
	expectFits(t, table, release, due, nil, false)
	expectFits(t, filled(2, 2, 0), release, due, intervals(";;"), true)
	expectFits(t, filled(2, 2, 0), release, due, intervals("1 -1 -1; 3 -1 -1; 1 -1 -1"), true)
	expectFits(t, filled(2, 2, 0), release, due, intervals(";"), false)
	expectFits(t, filled(2, 2, 0), release, due, intervals("1 0 -1;;"), false)
	// The gap between windows that are apart is an interval, in which no job is.
	expectFits(t, times("1, 1"), ints("0 2"), ints("1 3"), intervals("1 0;; 1 1"), true)
	expectFits(t, times("1, 1"), ints("0 2"), ints("1 3"), intervals("1 0; 1 -1; 1 1"), true)
	expectFits(t, times("1, 1"), ints("0 2"), ints("1 3"), intervals("1 0; 1 1"), false)
	expectFits(t, times("1, 1"), ints("0 2"), ints("1 3"), intervals("1 0; 1 1;"), false)
	expectFits(t, times("1, 1"), ints("0 1"), ints("1 2"), intervals("1 0; 1 1"), true)
}

// In each interval there may be 1000 shifts.
func TestManyShiftsInWindows(t *testing.T) {
	part := slices.Repeat(shifts("1/2 0"), 1000)
	expectFits(t, times("1000"), ints("0"), ints("500"), plans{part}, false)
	expectFits(t, times("500"), ints("0"), ints("500"), plans{part}, true)
	expectFits(t, times("500"), ints("0"), ints("499"), plans{part}, false)
	expectFits(t, times("500, 500"), ints("0 500"), ints("500 1000"), plans{part, slices.Repeat(shifts("1/2 1"), 1000)}, true)
	expectFits(t, times("500"), ints("0"), ints("600"), plans{append(part, shifts("1/2 -1")...)}, false)
	expectFits(t, times("500"), ints("0"), ints("600"), plans{append(part[:999:999], shifts("1/4 0, 1/4 0")...)}, false)
}
