package shop

import (
	"slices"

	"cracknel/api"
	"cracknel/number"
)

// mostTime is the greatest time of windows.
const mostTime = 10000

// A windowed is a table of work of which each job has to be done between its
// release and its due.
type windowed struct {
	table
	release, due []int
	times        []int // of all windows, rising
}

// readWindows reads a work table and windows, or returns false if they are not
// valid.
func readWindows(times [][]int, release, due []int) (windowed, bool) {
	t, ok := read(times)
	if !ok || len(release) != t.jobs() || len(due) != t.jobs() {
		return windowed{}, false
	}
	areWindows := every(t.jobs(), func(job int) bool {
		return release[job] >= 0 && release[job] < due[job] && due[job] <= mostTime
	})
	if !areWindows {
		return windowed{}, false
	}
	all := slices.Concat(release, due)
	slices.Sort(all)
	return windowed{t, release, due, slices.Compact(all)}, true
}

func (w windowed) intervals() int { return len(w.times) - 1 }

// span returns the length of an interval.
func (w windowed) span(interval int) number.Ratio {
	return whole(w.times[interval+1] - w.times[interval])
}

// allows reports whether a job may be worked on in an interval.
func (w windowed) allows(job, interval int) bool {
	return w.release[job] <= w.times[interval] && w.due[job] >= w.times[interval+1]
}

// A piece is the work of a machine on a job in an interval: a variable of the
// linear program that decides whether there is a plan.
type piece struct {
	interval, job, machine int
}

// pieces returns all pieces that there may be.
func (w windowed) pieces() []piece {
	var out []piece
	for interval := range w.intervals() {
		for job, row := range w.table {
			for machine, time := range row {
				if !time.IsZero() && w.allows(job, interval) {
					out = append(out, piece{interval, job, machine})
				}
			}
		}
	}
	return out
}

// A limit is a row of the linear program: how much some pieces come to together,
// or come to at most.
type limit struct {
	kind   int
	pieces []int // rising
	right  number.Ratio
}

// limits returns all limits of pieces: the work that is to be done, and what
// jobs and machines can do in an interval.
func (w windowed) limits(pieces []piece) []limit {
	var out []limit
	add := func(kind int, right number.Ratio, isPart func(piece) bool) {
		var parts []int
		for i, p := range pieces {
			if isPart(p) {
				parts = append(parts, i)
			}
		}
		if len(parts) > 0 {
			out = append(out, limit{kind, parts, right})
		}
	}
	for job, row := range w.table {
		for machine, time := range row {
			add(api.Equal, time, func(p piece) bool { return p.job == job && p.machine == machine })
		}
	}
	for interval := range w.intervals() {
		for job := range w.jobs() {
			add(api.AtMost, w.span(interval), func(p piece) bool { return p.interval == interval && p.job == job })
		}
		for machine := range w.machines() {
			add(api.AtMost, w.span(interval), func(p piece) bool { return p.interval == interval && p.machine == machine })
		}
	}
	return out
}

// program returns the linear program.
func (w windowed) program() (api.Program, api.Errno) {
	pieces := w.pieces()
	limits := w.limits(pieces)
	if len(pieces) == 0 {
		return api.Program{}, api.ErrNone
	}
	if len(pieces) > api.MaxVars || len(limits) > api.MaxLimits {
		return api.Program{}, api.ErrLong
	}
	out := api.Program{Cost: slices.Repeat([]api.Num{"0"}, len(pieces))}
	for _, l := range limits {
		coef := slices.Repeat([]api.Num{"0"}, len(pieces))
		for _, i := range l.pieces {
			coef[i] = "1"
		}
		right, _ := l.right.Text() // It is short.
		out.Rows = append(out.Rows, api.Row{Coef: coef, Kind: l.kind, Right: right})
	}
	return out, api.OK
}

// parts returns the work of each interval, so that there is time for it, or
// false if there is not time enough.
func (w windowed) parts() ([]table, bool) {
	pieces := w.pieces()
	amounts := most(len(pieces), w.limits(pieces))
	if number.Sum(amounts).Compare(w.total()) != 0 {
		return nil, false
	}
	out := make([]table, w.intervals())
	for interval := range out {
		out[interval] = newTable(w.jobs(), w.machines())
	}
	for i, p := range pieces {
		out[p.interval][p.job][p.machine] = amounts[i]
	}
	return out, true
}

// isDoneIn reports whether schedules, one for each interval, are a plan in the
// windows.
func (w windowed) isDoneIn(plan [][]api.Shift) bool {
	if len(plan) != w.intervals() {
		return false
	}
	var all []turn
	for interval, schedule := range plan {
		turns, ok := w.readTurns(schedule)
		if !ok || !w.hasRoomFor(turns, interval) {
			return false
		}
		all = append(all, turns...)
	}
	return w.isDoneBy(all)
}

// hasRoomFor reports whether turns are not longer than an interval, and work only
// on jobs that may be worked on in it.
func (w windowed) hasRoomFor(turns []turn, interval int) bool {
	for _, u := range turns {
		for _, job := range u.jobs {
			if job != none && !w.allows(job, interval) {
				return false
			}
		}
	}
	return lengthOf(turns).Compare(w.span(interval)) <= 0
}
