package shop

import (
	"cracknel/api"
	"cracknel/number"
)

// A table is work: how long each machine works on each job, with a row for each
// job.
type table [][]number.Ratio

// read reads a work table, or returns false if it is not valid.
func read(times [][]int) (table, bool) {
	if !isShop(len(times)) {
		return nil, false
	}
	out := make(table, len(times))
	for job, row := range times {
		if !isShop(len(row)) || len(row) != len(times[0]) {
			return nil, false
		}
		for _, time := range row {
			if time < 0 || time > api.MaxWork {
				return nil, false
			}
			out[job] = append(out[job], whole(time))
		}
	}
	return out, true
}

// isShop reports whether there may be that many jobs, or machines.
func isShop(n int) bool { return n >= 1 && n <= api.MaxShop }

func whole(n int) number.Ratio { return number.Whole(number.Of(n)) }

// newTable returns a table without work.
func newTable(jobs, machines int) table {
	out := make(table, jobs)
	for job := range out {
		out[job] = make([]number.Ratio, machines)
	}
	return out
}

func (t table) jobs() int { return len(t) }

func (t table) machines() int { return len(t[0]) }

// loads returns the loads of all jobs, and behind them those of all machines.
func (t table) loads() []number.Ratio {
	out := make([]number.Ratio, t.jobs()+t.machines())
	for job, row := range t {
		for machine, time := range row {
			out[job] = out[job].Plus(time)
			out[t.jobs()+machine] = out[t.jobs()+machine].Plus(time)
		}
	}
	return out
}

// heaviest returns the greatest load, and where it is first among the loads.
func (t table) heaviest() (number.Ratio, int) {
	loads, at := t.loads(), 0
	for i, load := range loads {
		if load.Compare(loads[at]) > 0 {
			at = i
		}
	}
	return loads[at], at
}

// total returns all work together.
func (t table) total() number.Ratio {
	var out number.Ratio
	for _, load := range t.loads()[:t.jobs()] {
		out = out.Plus(load)
	}
	return out
}

// isBalanced reports whether there are as many machines as jobs, and all loads
// are equal.
func (t table) isBalanced() bool {
	loads := t.loads()
	return t.jobs() == t.machines() && every(len(loads), func(i int) bool {
		return loads[i].Compare(loads[0]) == 0
	})
}

// every reports whether something holds for all numbers below n.
func every(n int, holds func(int) bool) bool {
	for i := range n {
		if !holds(i) {
			return false
		}
	}
	return true
}
