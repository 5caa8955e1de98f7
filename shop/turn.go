package shop

import (
	"slices"

	"cracknel/api"
	"cracknel/number"
)

// mostShifts is how many shifts a schedule may have where it is checked.
const mostShifts = 1000

// A turn is a shift whose length is read.
type turn struct {
	length number.Ratio
	jobs   []int // of each machine
}

// readTurns reads a schedule, or returns false if it is not valid for the jobs and
// machines of the table, or has too many shifts.
func (t table) readTurns(plan []api.Shift) ([]turn, bool) {
	if len(plan) > mostShifts {
		return nil, false
	}
	out := make([]turn, len(plan))
	for i, s := range plan {
		length, ok := number.Parse(s.Length)
		if !ok || length.Sign() <= 0 || !t.isAtOnce(s.Jobs) {
			return nil, false
		}
		out[i] = turn{length, s.Jobs}
	}
	return out, true
}

// isAtOnce reports whether the machines may work on these jobs at the same time.
func (t table) isAtOnce(jobs []int) bool {
	if len(jobs) != t.machines() {
		return false
	}
	isTaken := make([]bool, t.jobs())
	for _, job := range jobs {
		if job == none {
			continue
		}
		if job < 0 || job >= t.jobs() || isTaken[job] {
			return false
		}
		isTaken[job] = true
	}
	return true
}

// isDoneBy reports whether valid turns do the work of the table.
func (t table) isDoneBy(turns []turn) bool {
	return every(t.jobs(), func(job int) bool {
		return every(t.machines(), func(machine int) bool {
			var parts []turn
			for _, u := range turns {
				if u.jobs[machine] == job {
					parts = append(parts, u)
				}
			}
			return lengthOf(parts).Compare(t[job][machine]) == 0
		})
	})
}

// lengthOf returns the sum of the lengths of turns.
func lengthOf(turns []turn) number.Ratio {
	lengths := make([]number.Ratio, len(turns))
	for i, u := range turns {
		lengths[i] = u.length
	}
	return number.Sum(lengths)
}

// shifts writes turns. The lengths of turns that the package finds are short.
func shifts(turns []turn) []api.Shift {
	out := make([]api.Shift, len(turns))
	for i, u := range turns {
		length, _ := u.length.Text()
		out[i] = api.Shift{Length: length, Jobs: u.jobs}
	}
	return out
}

// share writes a turn of a balanced table of integers.
func (u turn) share() api.Share {
	count, _ := u.length.Num().Int()
	to := make([]int, len(u.jobs))
	for machine, job := range u.jobs {
		to[job] = machine
	}
	return api.Share{Count: count, To: to}
}

// readShares reads permutations as turns, or returns false if they are none for
// the table, or too many.
func (t table) readShares(shares []api.Share) ([]turn, bool) {
	n := t.jobs()
	if len(shares) > n*n-2*n+2 {
		return nil, false
	}
	out := make([]turn, len(shares))
	for i, s := range shares {
		// What is true of a permutation is true of its inverse.
		if s.Count < 1 || !t.isAtOnce(s.To) || slices.Contains(s.To, none) {
			return nil, false
		}
		jobs := make([]int, n)
		for job, machine := range s.To {
			jobs[machine] = job
		}
		out[i] = turn{whole(s.Count), jobs}
	}
	return out, true
}
