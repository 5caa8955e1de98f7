package shop_test

import (
	"math/rand"
	"reflect"
	"slices"
	"testing"

	"cracknel/api"
	"cracknel/shop"
)

// wanted returns the program of chapter 8, one row after the other.
func wanted(table grid, release, due []int) api.Program {
	type variable struct{ interval, job, machine int }
	at := timesOf(release, due)
	var all []variable
	for k := range len(at) - 1 {
		for job, row := range table {
			for machine, time := range row {
				if time > 0 && release[job] <= at[k] && at[k+1] <= due[job] {
					all = append(all, variable{k, job, machine})
				}
			}
		}
	}
	var out api.Program
	add := func(kind, right int, match func(v variable) bool) {
		row := api.Row{Kind: kind, Right: numOf(whole(right))}
		for _, v := range all {
			if match(v) {
				row.Coef = append(row.Coef, "1")
			} else {
				row.Coef = append(row.Coef, "0")
			}
		}
		if slices.Contains(row.Coef, "1") {
			out.Rows = append(out.Rows, row)
		}
	}
	for range all {
		out.Cost = append(out.Cost, "0")
	}
	for i := range len(table) * len(table[0]) {
		job, machine := i/len(table[0]), i%len(table[0])
		if table[job][machine] > 0 {
			add(api.Equal, table[job][machine], func(v variable) bool { return v.job == job && v.machine == machine })
		}
	}
	for k := range len(at) - 1 {
		for job := range table {
			add(api.AtMost, at[k+1]-at[k], func(v variable) bool { return v.interval == k && v.job == job })
		}
		for machine := range table[0] {
			add(api.AtMost, at[k+1]-at[k], func(v variable) bool { return v.interval == k && v.machine == machine })
		}
	}
	return out
}

// isLong reports whether a program has too many variables or rows.
func isLong(p api.Program) bool { return len(p.Cost) > api.MaxVars || len(p.Rows) > api.MaxLimits }

func expectProgram(t *testing.T, table grid, release, due []int, want api.Program) {
	t.Helper()
	got, e := shop.Program(table, release, due)
	if e != api.OK || !reflect.DeepEqual(got, want) {
		t.Errorf("Program(%v, %v, %v) = %v, error %d, want %v", table, release, due, got, e, want)
	}
}

func expectProgramError(t *testing.T, table grid, release, due []int, want api.Errno) {
	t.Helper()
	p, e := shop.Program(table, release, due)
	expectError(t, "Program", p, e, want)
	y, e := shop.Refuse(table, release, due)
	expectError(t, "Refuse", y, e, want)
}

func TestPrograms(t *testing.T) {
	row := func(kind int, right api.Num, coef ...api.Num) api.Row {
		return api.Row{Coef: coef, Kind: kind, Right: right}
	}
	expectProgram(t, times("1, 1"), ints("0 0"), ints("1 1"), api.Program{Cost: nums{"0", "0"}, Rows: []api.Row{
		row(api.Equal, "1", "1", "0"), row(api.Equal, "1", "0", "1"),
		row(api.AtMost, "1", "1", "0"), row(api.AtMost, "1", "0", "1"), row(api.AtMost, "1", "1", "1"),
	}})
	// Job 0 from 0 to 3, on both machines; job 1 from 1 to 7, on the second one; so
	// there is no row for the first machine from 3 to 7.
	expectProgram(t, times("2 1, 0 5"), ints("0 1"), ints("3 7"), api.Program{Cost: nums{"0", "0", "0", "0", "0", "0"}, Rows: []api.Row{
		row(api.Equal, "2", "1", "0", "1", "0", "0", "0"),
		row(api.Equal, "1", "0", "1", "0", "1", "0", "0"),
		row(api.Equal, "5", "0", "0", "0", "0", "1", "1"),
		row(api.AtMost, "1", "1", "1", "0", "0", "0", "0"),
		row(api.AtMost, "1", "1", "0", "0", "0", "0", "0"),
		row(api.AtMost, "1", "0", "1", "0", "0", "0", "0"),
		row(api.AtMost, "2", "0", "0", "1", "1", "0", "0"),
		row(api.AtMost, "2", "0", "0", "0", "0", "1", "0"),
		row(api.AtMost, "2", "0", "0", "1", "0", "0", "0"),
		row(api.AtMost, "2", "0", "0", "0", "1", "1", "0"),
		row(api.AtMost, "4", "0", "0", "0", "0", "0", "1"),
		row(api.AtMost, "4", "0", "0", "0", "0", "0", "1"),
	}})
	// A job without work, and an interval without a job.
	expectProgram(t, times("0, 3"), ints("0 5"), ints("2 9"), api.Program{Cost: nums{"0"}, Rows: []api.Row{
		row(api.Equal, "3", "1"), row(api.AtMost, "4", "1"), row(api.AtMost, "4", "1"),
	}})
}

func TestRandomPrograms(t *testing.T) {
	r := rand.New(rand.NewSource(11))
	counts := map[api.Errno]int{}
	for range 3000 {
		table := someTable(r, between(r, 1, 8), between(r, 1, 8), 9, between(r, 4, 10))
		release, due := someWindows(r, len(table), between(r, 1, 20))
		want := wanted(table, release, due)
		switch {
		case len(want.Cost) == 0:
			expectProgramError(t, table, release, due, api.ErrNone)
			counts[api.ErrNone]++
		case isLong(want):
			expectProgramError(t, table, release, due, api.ErrLong)
			counts[api.ErrLong]++
		default:
			expectProgram(t, table, release, due, want)
			counts[api.OK]++
		}
	}
	if len(counts) != 3 || min(counts[api.OK], counts[api.ErrNone], counts[api.ErrLong]) < 100 {
		t.Errorf("errors: %v", counts)
	}
}

// Exactly as many variables, or rows, as there may be, and one more.
func TestGreatestPrograms(t *testing.T) {
	// Work in one interval for each variable.
	some := func(count int) grid {
		table := filled(8, 8, 0)
		for i := range count {
			table[i/8][i%8] = 1
		}
		return table
	}
	apart := func(jobs int) (release, due []int) {
		for job := range jobs {
			release, due = append(release, 2*job), append(due, 2*job+1)
		}
		return release, due
	}
	same, ten := make([]int, 8), slices.Repeat([]int{10}, 8)
	check := func(table grid, release, due []int, variables, rows int) {
		t.Helper()
		want := wanted(table, release, due)
		if len(want.Cost) != variables || len(want.Rows) != rows {
			t.Fatalf("%v, %v, %v: %d variables, %d rows", table, release, due, len(want.Cost), len(want.Rows))
		}
		if isLong(want) {
			expectProgramError(t, table, release, due, api.ErrLong)
		} else {
			expectProgram(t, table, release, due, want)
		}
	}
	check(some(32), same, ten, 32, 32+4+8)
	check(some(33), same, ten, 33, 33+5+8)
	// Jobs in one interval, or in several.
	check(filled(4, 4, 1), ints("0 0 0 0"), ints("9 5 9 5"), 24, 16+4+4+2+4)
	check(filled(4, 4, 1), ints("0 0 0 0"), ints("9 9 9 9"), 16, 16+4+4)
	check(filled(4, 4, 1), ints("0 0 0 5"), ints("9 9 9 9"), 28, 16+3+4+4+4)
	check(filled(2, 8, 1), ints("0 2"), ints("5 7"), 32, 16+1+8+2+8+1+8)
	// A job alone in each interval has a row for itself and one for each machine.
	release, due := apart(6)
	table := filled(6, 4, 0)
	for job := range table {
		copy(table[job], ints("1 1 1 0"))
	}
	table[5][2] = 0
	check(table, release, due, 17, 17+6+17)
	table[5][2], table[4][3], table[3][3], table[2][3] = 1, 1, 1, 1
	check(table, release, due, 21, 21+6+21)
	table[1][3] = 1
	check(table, release, due, 22, 22+6+22)
	release, due = apart(7)
	table = append(filled(6, 3, 1), ints("1 1 0"))
	check(table, release, due, 20, 20+7+20)
	table[6][2] = 1
	check(table, release, due, 21, 49)
	table[0][0] = 0
	check(append(table[:5:5], table[6]), release[:6], due[:6], 17, 40)
}
