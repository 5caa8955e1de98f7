package shop_test

import (
	"math/big"
	"math/rand"
	"slices"
	"strings"
	"testing"

	"cracknel/api"
	"cracknel/shop"
)

func expectBound(t *testing.T, table grid, want ...int) {
	t.Helper()
	load, kind, at, e := shop.Bound(table)
	if e != api.OK || !slices.Equal([]int{load, kind, at}, want) {
		t.Errorf("Bound(%v) = %d, %d, %d, error %d, want %v", table, load, kind, at, e, want)
	}
}

// expectSchedule checks Plan: the number of its shifts, that their lengths are
// integers, and that they do the work in the time of Bound (O1).
func expectSchedule(t *testing.T, table grid) plan {
	t.Helper()
	p, e := shop.Plan(table)
	size := len(table) + len(table[0])
	if e != api.OK || len(p) > size*size {
		t.Fatalf("Plan(%v): %d shifts, error %d", table, len(p), e)
	}
	expectValid(t, table, p)
	expectWork(t, table, p)
	for _, s := range p {
		if strings.Contains(string(s.Length), "/") {
			t.Errorf("Plan(%v): the length %s", table, s.Length)
		}
	}
	if lengthOf(t, p).Cmp(whole(greatestLoad(table))) != 0 {
		t.Errorf("Plan(%v) takes %v", table, lengthOf(t, p))
	}
	expectDoes(t, table, p, numOf(whole(greatestLoad(table))))
	return p
}

func TestBounds(t *testing.T) {
	expectBound(t, times("2 1, 1 2"), 3, 0, 0)
	expectBound(t, times("2 1, 1 3"), 4, 0, 1)
	expectBound(t, times("0 1, 4 0, 1 3, 2 2"), 7, 1, 0)
	// Of several the first job, and if no job has it, the first machine.
	expectBound(t, times("1 1, 2 2, 2 2"), 5, 1, 0)
	expectBound(t, times("1 2, 0 0, 1 2"), 4, 1, 1)
	expectBound(t, times("0 1, 3 2, 2 2"), 5, 0, 1)
	expectBound(t, times("1 5, 6 0"), 7, 1, 0)
	expectBound(t, times("1 5, 5 1, 0 0"), 6, 0, 0)
	expectBound(t, times("0 5, 5 1, 0 0"), 6, 0, 1)
	expectBound(t, times("0 3 0 3, 0 0 0 0, 0 3 0 3"), 6, 0, 0)
	expectBound(t, times("0 3 0 3, 0 1 0 1, 0 3 0 3"), 7, 1, 1)
	// The least and the greatest tables.
	expectBound(t, times("7"), 7, 0, 0)
	expectBound(t, times("0"), 0, 0, 0)
	expectBound(t, filled(8, 8, 0), 0, 0, 0)
	expectBound(t, filled(8, 8, api.MaxWork), 8000, 0, 0)
	expectBound(t, filled(8, 1, api.MaxWork), 8000, 1, 0)
	expectBound(t, filled(1, 8, api.MaxWork), 8000, 0, 0)
}

func TestBoundsOfRandomTables(t *testing.T) {
	r := rand.New(rand.NewSource(1))
	for range 3000 {
		table := someTable(r, between(r, 1, 8), between(r, 1, 8), []int{1, 2, 1000}[r.Intn(3)], r.Intn(10))
		jobs, machines := loadsOf(table)
		greatest := greatestLoad(table)
		want := []int{greatest, 0, slices.Index(jobs, greatest)}
		if want[2] < 0 {
			want = []int{greatest, 1, slices.Index(machines, greatest)}
		}
		expectBound(t, table, want...)
	}
}

func TestPlans(t *testing.T) {
	for _, text := range []string{"1", "0", "1000", "2 1, 1 2", "0 0, 0 0", "1 0, 0 0", "0 0, 0 5", "5 5 5", "1, 2, 3", "1 2 3 4 5 6 7 8", "0 3 0, 1 0 0"} {
		expectSchedule(t, times(text))
	}
	for _, p := range []plan{expectSchedule(t, times("0")), expectSchedule(t, filled(8, 8, 0)), expectSchedule(t, filled(1, 8, 0))} {
		if len(p) > 0 {
			t.Errorf("no work is done by %v", p)
		}
	}
	for size := 1; size <= api.MaxShop; size++ {
		expectSchedule(t, filled(size, api.MaxShop, api.MaxWork))
		expectSchedule(t, filled(api.MaxShop, size, 1))
	}
}

// O1: with more machines than jobs, with fewer, and with as many.
func TestRandomPlans(t *testing.T) {
	r := rand.New(rand.NewSource(2))
	for range 1500 {
		expectSchedule(t, someTable(r, between(r, 1, 8), between(r, 1, 8), []int{1, 3, 1000}[r.Intn(3)], r.Intn(10)))
	}
}

// O1: no schedule that does the work is shorter than the greatest load, because
// its job or its machine works for that long.
func TestNoShorterSchedules(t *testing.T) {
	r := rand.New(rand.NewSource(3))
	for range 1000 {
		table := filled(between(r, 1, 4), between(r, 1, 4), 0)
		var p plan
		for range between(r, 1, 6) {
			s := shift{Length: numOf(whole(between(r, 1, 4)))}
			jobs := r.Perm(len(table) + len(table[0]))
			for machine := range table[0] {
				job := jobs[machine]
				if job >= len(table) {
					job = -1
				}
				s.Jobs = append(s.Jobs, job)
			}
			for machine, job := range s.Jobs {
				if job >= 0 {
					table[job][machine] += int(rat(t, s.Length).Num().Int64())
				}
			}
			p = append(p, s)
		}
		length, e := shop.Does(table, p)
		load, _, _, f := shop.Bound(table)
		if e != api.OK || f != api.OK || rat(t, length).Cmp(whole(load)) < 0 || length != numOf(lengthOf(t, p)) {
			t.Errorf("%v takes %s, and the bound of %v is %d, errors %d, %d", p, length, table, load, e, f)
		}
	}
}

func TestDoes(t *testing.T) {
	table := times("2 1, 1 2")
	expectDoes(t, table, shifts("2 0 1, 1 1 0"), "3")
	expectDoes(t, table, shifts("1 1 0, 1 0 1, 1 0 1"), "3")
	expectDoes(t, table, shifts("2 0 -1, 1 -1 0, 1 1 -1, 2 -1 1"), "6")
	expectDoes(t, table, shifts("1/2 0 1, 1 1 0, 3/2 0 1"), "3")
	expectDoes(t, table, shifts("2 0 1, 1 1 0, 1/7 -1 -1"), "22/7")
	expectDoes(t, times("0"), nil, "0")
	expectDoes(t, times("0"), shifts("5 -1"), "5")
	expectDoes(t, times("1, 0"), shifts("1/3 0, 1/3 0, 1/3 0"), "1")
	expectDoes(t, times("1000 0"), shifts("1000 0 -1"), "1000")
	// Too much, too little, or another's work.
	for _, text := range []string{
		"", "2 0 1", "2 0 1, 1 1 0, 1 0 -1", "2 0 1, 1 1 -1", "1 0 1, 1 1 0", "2 0 1, 2 1 0", "3 0 1", "2 1 0, 1 0 1",
		"2 0 1, 1/2 1 0", "2 0 1, 1 1 0, 1/1000 -1 1", "2 0 1, 999/1000 1 0", "1 0 1, 1 1 0, 999/1000 0 1",
	} {
		expectDoesError(t, table, shifts(text), api.ErrForm)
	}
	expectDoesError(t, times("0"), shifts("1 0"), api.ErrForm)
	expectDoesError(t, times("1 0, 0 1"), shifts("1 0 1, 1 1 -1, 1 -1 0"), api.ErrForm)
	expectDoesError(t, times("1, 0"), shifts("1 1"), api.ErrForm)
}

func TestInvalidSchedules(t *testing.T) {
	table := times("2 1, 1 2")
	// The work would be done, but for what is wrong.
	for _, text := range []string{
		"0 -1 -1", "-1 -1 -1", "-1/2 -1 -1", "2/4 -1 -1", "1/1 -1 -1", "01 -1 -1", "-0 -1 -1", "x -1 -1", "+1 -1 -1", "1.5 -1 -1", "0 0 1", "1/0 -1 -1",
		"1", "1 -1", "1 -1 -1 -1", "1 -2 -1", "1 -1 2", "1 2 -1", "1 -1 3",
	} {
		expectDoesError(t, table, append(shifts("2 0 1, 1 1 0"), shifts(text)...), api.ErrForm)
	}
	expectDoesError(t, table, append(shifts("2 0 1, 1 1 0"), shift{Jobs: []int{-1, -1}}), api.ErrForm)
	expectDoesError(t, table, append(shifts("2 0 1, 1 1 0"), shift{Length: "1"}), api.ErrForm)
	expectDoesError(t, times("1 1"), shifts("1 0 0"), api.ErrForm)
	expectDoesError(t, times("1 0 1, 0 1 0"), shifts("1 0 1 0"), api.ErrForm)
	for _, job := range odd() {
		expectDoesError(t, table, append(shifts("2 0 1, 1 1 0"), shift{Length: "1", Jobs: []int{-1, job}}), api.ErrForm)
	}
	// Both directions of work that undoes itself.
	expectDoesError(t, times("1"), shifts("2 0, -1 0"), api.ErrForm)
	// A longer number than a Num has.
	digits := api.Num(strings.Repeat("9", api.MaxDigits+1))
	expectDoesError(t, times("0"), plan{{Length: digits, Jobs: []int{-1}}}, api.ErrForm)
	expectDoesError(t, times("0"), plan{{Length: "1/" + digits, Jobs: []int{-1}}}, api.ErrForm)
}

func TestManyShifts(t *testing.T) {
	table := times("1000 0")
	expectDoes(t, table, slices.Repeat(shifts("1 0 -1"), 1000), "1000")
	expectDoesError(t, table, append(slices.Repeat(shifts("1 0 -1"), 999), shifts("1/2 0 -1, 1/2 0 -1")...), api.ErrForm)
	expectDoesError(t, table, append(slices.Repeat(shifts("1 0 -1"), 1000), shifts("1 -1 -1")...), api.ErrForm)
	expectDoes(t, times("1 1"), slices.Repeat(shifts("1/500 0 -1, 1/500 -1 0"), 500), "2")
}

// ErrRange: the length has too many digits, though each shift has not.
func TestLongLengths(t *testing.T) {
	most := new(big.Int).Exp(big.NewInt(10), big.NewInt(api.MaxDigits-1), nil)
	next := new(big.Int).Add(most, big.NewInt(1))
	first, second := api.Num("1/"+most.String()), api.Num("1/"+next.String())
	one := shifts("1 0")
	expectDoes(t, times("1"), append(one, shift{Length: first, Jobs: []int{-1}}), numOf(new(big.Rat).Add(whole(1), rat(t, first))))
	expectDoesError(t, times("1"), append(one, shift{Length: first, Jobs: []int{-1}}, shift{Length: second, Jobs: []int{-1}}), api.ErrRange)
	expectDoesError(t, times("2"), append(one, shift{Length: first, Jobs: []int{-1}}, shift{Length: second, Jobs: []int{-1}}), api.ErrForm)
	nines := api.Num(strings.Repeat("9", api.MaxDigits))
	expectDoes(t, times("0"), plan{{Length: nines, Jobs: []int{-1}}}, nines)
	expectDoesError(t, times("0"), plan{{Length: nines, Jobs: []int{-1}}, {Length: "1", Jobs: []int{-1}}}, api.ErrRange)
	// Digits on the way may be as many as they like.
	rest := new(big.Rat).Sub(whole(1), rat(t, first))
	other := new(big.Rat).Sub(whole(1), rat(t, second))
	var p plan
	for _, x := range []api.Num{first, second, numOf(other), numOf(rest)} {
		p = append(p, shift{Length: x, Jobs: []int{0, -1}}, shift{Length: x, Jobs: []int{-1, 0}})
	}
	expectDoes(t, times("2 2"), p, "4")
}
