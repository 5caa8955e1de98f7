package shop

import "slices"

// none is the job of a machine that does not work.
const none = -1

// A matching gives machines to jobs, each one to a job for which it has work
// left in the table.
type matching struct {
	table
	jobOf   []int  // of each machine
	isTried []bool // for each machine, whether the present search came by it
}

func newMatching(t table) *matching {
	m := &matching{table: newTable(t.jobs(), t.machines())}
	for job, row := range t {
		copy(m.table[job], row)
	}
	m.jobOf = slices.Repeat([]int{none}, m.machines())
	m.isTried = make([]bool, m.machines())
	return m
}

// search gives a machine to one more job, or returns false if it cannot.
func (m *matching) search(job int) bool {
	clear(m.isTried)
	return m.give(job)
}

// give gives a machine that has not been tried to a job. If another job has it,
// that one has to find a machine in its place.
func (m *matching) give(job int) bool {
	for machine, left := range m.table[job] {
		if left.IsZero() || m.isTried[machine] {
			continue
		}
		m.isTried[machine] = true
		if holder := m.jobOf[machine]; holder == none || m.give(holder) {
			m.jobOf[machine] = job
			return true
		}
	}
	return false
}

// take returns the matching as a turn that is as long as it can be, takes that
// off the table, and lets all machines go.
func (m *matching) take() turn {
	out := turn{length: m.table[m.jobOf[0]][0], jobs: slices.Clone(m.jobOf)}
	for machine, job := range m.jobOf {
		if left := m.table[job][machine]; left.Compare(out.length) < 0 {
			out.length = left
		}
	}
	for machine, job := range m.jobOf {
		m.table[job][machine] = m.table[job][machine].Minus(out.length)
		m.jobOf[machine] = none
	}
	return out
}

// turns divides a balanced table into permutations.
//
// As long as work is left, there is a permutation in it, because the table stays
// balanced (Birkhoff). With each one, what is left comes to lie on a side of
// what it was on, in the polytope of all balanced tables, and so loses one of
// its at most (n-1)·(n-1) dimensions: there is one turn more than that at most.
func (t table) turns() []turn {
	m := newMatching(t)
	var out []turn
	for every(m.jobs(), m.search) {
		out = append(out, m.take())
	}
	return out
}

// padded returns a balanced table whose loads are the greatest one of the table,
// with the table in its first rows and columns. It has a job more for each
// machine, and a machine more for each job, which have the same work mirrored;
// and each job and its machine have together what both lack.
func (t table) padded() table {
	jobs, machines := t.jobs(), t.machines()
	loads := t.loads()
	greatest, _ := t.heaviest()
	out := newTable(jobs+machines, machines+jobs)
	for job, row := range t {
		copy(out[job], row)
		for machine, time := range row {
			out[jobs+machine][machines+job] = time
		}
		out[job][machines+job] = greatest.Minus(loads[job])
	}
	for machine, load := range loads[jobs:] {
		out[jobs+machine][machine] = greatest.Minus(load)
	}
	return out
}

// schedule returns a schedule that does the work and is as long as the greatest
// load.
func (t table) schedule() []turn {
	out := t.padded().turns()
	for i := range out {
		jobs := out[i].jobs[:t.machines()]
		for machine, job := range jobs {
			if job >= t.jobs() {
				jobs[machine] = none
			}
		}
		out[i].jobs = jobs
	}
	return out
}
