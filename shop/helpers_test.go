package shop_test

import (
	"fmt"
	"math/big"
	"math/rand"
	"slices"
	"strconv"
	"strings"
	"testing"

	"cracknel/api"
	"cracknel/shop"
)

type (
	grid  = [][]int
	shift = api.Shift
	plan  = []api.Shift
	plans = [][]api.Shift
	share = api.Share
	nums  = []api.Num
)

// ints reads numbers: "2 -1".
func ints(text string) []int {
	var out []int
	for _, word := range strings.Fields(text) {
		n, err := strconv.Atoi(word)
		if err != nil {
			panic(text)
		}
		out = append(out, n)
	}
	return out
}

// times reads a table: "2 1, 1 2".
func times(text string) grid {
	var out grid
	for _, row := range strings.Split(text, ",") {
		out = append(out, ints(row))
	}
	return out
}

// shifts reads a schedule, each shift a length and the jobs: "2 0 1, 1/2 1 -1".
func shifts(text string) plan {
	var out plan
	for _, part := range strings.Split(text, ",") {
		if words := strings.Fields(part); len(words) > 0 {
			out = append(out, shift{Length: api.Num(words[0]), Jobs: ints(strings.Join(words[1:], " "))})
		}
	}
	return out
}

// intervals reads schedules: "1 0 -1; ; 2 0 1".
func intervals(text string) plans {
	var out plans
	for _, part := range strings.Split(text, ";") {
		out = append(out, shifts(part))
	}
	return out
}

// permutations reads shares, each one a count and the machines: "2 0 1, 1 1 0".
func permutations(text string) []share {
	var out []share
	for _, part := range strings.Split(text, ",") {
		if n := ints(part); len(n) > 0 {
			out = append(out, share{Count: n[0], To: n[1:]})
		}
	}
	return out
}

func between(r *rand.Rand, low, high int) int { return low + r.Intn(high-low+1) }

// odd returns numbers that are never times, jobs or machines.
func odd() []int {
	return []int{-1 << 63, -1 << 62, -1 << 32, -1001, -2, 10001, 1 << 31, 1 << 32, 1<<32 + 1, 1 << 62, 1<<63 - 1}
}

// filled returns a table of equal times.
func filled(jobs, machines, time int) grid {
	var out grid
	for range jobs {
		out = append(out, slices.Repeat([]int{time}, machines))
	}
	return out
}

// someTable returns a random table of which about the given share of ten is 0.
func someTable(r *rand.Rand, jobs, machines, most, zeros int) grid {
	out := filled(jobs, machines, 0)
	for _, row := range out {
		for machine := range row {
			if r.Intn(10) >= zeros {
				row[machine] = r.Intn(most + 1)
			}
		}
	}
	return out
}

// someBalanced returns a random sum of permutations.
func someBalanced(r *rand.Rand, n, count, most int) grid {
	out := filled(n, n, 0)
	for range count {
		times := between(r, 0, most)
		for job, machine := range r.Perm(n) {
			out[job][machine] += times
		}
	}
	return out
}

func copied(table grid) grid {
	var out grid
	for _, row := range table {
		out = append(out, slices.Clone(row))
	}
	return out
}

// loadsOf returns the loads of jobs, and of machines.
func loadsOf(table grid) ([]int, []int) {
	jobs, machines := make([]int, len(table)), make([]int, len(table[0]))
	for job, row := range table {
		for machine, time := range row {
			jobs[job] += time
			machines[machine] += time
		}
	}
	return jobs, machines
}

func greatestLoad(table grid) int {
	jobs, machines := loadsOf(table)
	return max(slices.Max(jobs), slices.Max(machines))
}

// rat reads a Num in lowest terms.
func rat(t *testing.T, x api.Num) *big.Rat {
	t.Helper()
	out, ok := new(big.Rat).SetString(string(x))
	if !ok || numOf(out) != x {
		t.Fatalf("%q is no Num", x)
	}
	return out
}

func numOf(x *big.Rat) api.Num { return api.Num(x.RatString()) }

func whole(n int) *big.Rat { return big.NewRat(int64(n), 1) }

// lengthOf returns the length of a schedule.
func lengthOf(t *testing.T, p plan) *big.Rat {
	t.Helper()
	out := new(big.Rat)
	for _, s := range p {
		out.Add(out, rat(t, s.Length))
	}
	return out
}

// expectValid checks that a schedule is valid for a table.
func expectValid(t *testing.T, table grid, p plan) {
	t.Helper()
	for _, s := range p {
		seen := map[int]bool{}
		for _, job := range s.Jobs {
			if job < -1 || job >= len(table) || seen[job] && job != -1 {
				t.Fatalf("%v: jobs %v", table, s.Jobs)
			}
			seen[job] = true
		}
		if len(s.Jobs) != len(table[0]) || rat(t, s.Length).Sign() <= 0 {
			t.Fatalf("%v: the shift %v", table, s)
		}
	}
}

// expectWork checks that a valid schedule does the work of a table.
func expectWork(t *testing.T, table grid, p plan) {
	t.Helper()
	left := make([][]*big.Rat, len(table))
	for job, row := range table {
		for _, time := range row {
			left[job] = append(left[job], whole(time))
		}
	}
	for _, s := range p {
		for machine, job := range s.Jobs {
			if job >= 0 {
				left[job][machine].Sub(left[job][machine], rat(t, s.Length))
			}
		}
	}
	for job, row := range left {
		for machine, x := range row {
			if x.Sign() != 0 {
				t.Fatalf("%v: %v lacks %v for job %d and machine %d", table, p, x, job, machine)
			}
		}
	}
}

// timesOf returns the times of windows.
func timesOf(release, due []int) []int {
	out := append(slices.Clone(release), due...)
	slices.Sort(out)
	return slices.Compact(out)
}

// expectPlan checks a plan in windows by what chapter 8 says.
func expectPlan(t *testing.T, table grid, release, due []int, p plans) {
	t.Helper()
	at := timesOf(release, due)
	if len(p) != len(at)-1 {
		t.Fatalf("%v, %v, %v: %d intervals", table, release, due, len(p))
	}
	for k, part := range p {
		expectValid(t, table, part)
		if len(part) > 1000 || lengthOf(t, part).Cmp(whole(at[k+1]-at[k])) > 0 {
			t.Fatalf("%v, %v, %v: interval %d has %v", table, release, due, k, part)
		}
		for _, s := range part {
			for _, job := range s.Jobs {
				if job >= 0 && (release[job] > at[k] || due[job] < at[k+1]) {
					t.Fatalf("%v, %v, %v: job %d is outside of its window", table, release, due, job)
				}
			}
		}
	}
	expectWork(t, table, slices.Concat(p...))
}

// expectWindows checks that there is a plan, and that Fits accepts it.
func expectWindows(t *testing.T, table grid, release, due []int) plans {
	t.Helper()
	p, e := shop.Windows(table, release, due)
	if e != api.OK {
		t.Fatalf("Windows(%v, %v, %v): error %d", table, release, due, e)
	}
	expectPlan(t, table, release, due, p)
	expectFits(t, table, release, due, p, true)
	return p
}

// expectNoWindows checks that there is no plan, and that Refuse proves it, if the
// program is not too long.
func expectNoWindows(t *testing.T, table grid, release, due []int) {
	t.Helper()
	p, e := shop.Windows(table, release, due)
	expectError(t, "Windows", p, e, api.ErrNone)
	if y, e := shop.Refuse(table, release, due); e != api.ErrLong {
		expectProof(t, table, release, due, y, e)
	}
}

// expectProof checks multipliers by additions and multiplications alone: that the
// columns are 0 or less and the right side above 0, which no plan can do.
func expectProof(t *testing.T, table grid, release, due []int, y nums, e api.Errno) {
	t.Helper()
	p, f := shop.Program(table, release, due)
	if e != api.OK || f != api.OK || len(y) != len(p.Rows) {
		t.Fatalf("Refuse(%v, %v, %v) = %v, errors %d, %d", table, release, due, y, e, f)
	}
	right := new(big.Rat)
	columns := make([]*big.Rat, len(p.Cost))
	for i := range columns {
		columns[i] = new(big.Rat)
	}
	for k, row := range p.Rows {
		times := rat(t, y[k])
		if row.Kind == api.AtMost && times.Sign() > 0 {
			t.Errorf("Refuse(%v, %v, %v) = %v: a sign", table, release, due, y)
		}
		right.Add(right, new(big.Rat).Mul(times, rat(t, row.Right)))
		for i, x := range row.Coef {
			columns[i].Add(columns[i], new(big.Rat).Mul(times, rat(t, x)))
		}
	}
	isAbove := slices.ContainsFunc(columns, func(x *big.Rat) bool { return x.Sign() > 0 })
	if isAbove || right.Sign() <= 0 {
		t.Errorf("Refuse(%v, %v, %v) = %v: columns %v, right side %v", table, release, due, y, columns, right)
	}
}

func expectFits(t *testing.T, table grid, release, due []int, p plans, want bool) {
	t.Helper()
	if got, e := shop.Fits(table, release, due, p); got != want || e != api.OK {
		t.Errorf("Fits(%v, %v, %v, %s) = %t, error %d", table, release, due, brief(p), got, e)
	}
}

func expectDoes(t *testing.T, table grid, p plan, want api.Num) {
	t.Helper()
	if got, e := shop.Does(table, p); got != want || e != api.OK {
		t.Errorf("Does(%v, %s) = %.99s, error %d, want %.99s", table, brief(p), got, e, want)
	}
}

func expectDoesError(t *testing.T, table grid, p plan, want api.Errno) {
	t.Helper()
	got, e := shop.Does(table, p)
	expectError(t, "Does", got, e, want)
}

func expectMakes(t *testing.T, table grid, shares []share, want bool) {
	t.Helper()
	if got, e := shop.Makes(table, shares); got != want || e != api.OK {
		t.Errorf("Makes(%v, %v) = %t, error %d", table, shares, got, e)
	}
}

// brief returns the beginning of what may be long.
func brief(x any) string {
	text := fmt.Sprint(x)
	return text[:min(len(text), 300)]
}

// isZero reports whether a result is a zero value, or an empty slice.
func isZero(result any) bool {
	switch x := result.(type) {
	case int:
		return x == 0
	case bool:
		return !x
	case api.Num:
		return x == ""
	case plan:
		return len(x) == 0
	case plans:
		return len(x) == 0
	case []share:
		return len(x) == 0
	case nums:
		return len(x) == 0
	case api.Program:
		return len(x.Cost) == 0 && len(x.Rows) == 0
	}
	return false
}

// expectError checks an error, and R3: beside it the result is zero.
func expectError(t *testing.T, name string, result any, e, want api.Errno) {
	t.Helper()
	if e != want || e != api.OK && !isZero(result) {
		t.Errorf("%s = %s, error %d, want %d", name, brief(result), e, want)
	}
}
