package line

import (
	"slices"

	"cracknel/api"
	"cracknel/exact"
)

// A plant has stations and loops that are valid.
type plant struct {
	times []int
	loops []api.Loop
}

// newPlant returns false unless a plant is valid.
func newPlant(times []int, loops []api.Loop) (plant, bool) {
	isWrongTime := func(time int) bool { return time < 0 || time > api.MaxTime }
	isWrong := func(l api.Loop) bool {
		return l.From < 0 || l.From > l.To || l.To >= len(times) || l.Trays < 1 || l.Trays > api.MaxTrays
	}
	if len(times) < 1 || len(times) > api.MaxPlant || slices.ContainsFunc(times, isWrongTime) {
		return plant{}, false
	}
	if len(loops) > api.MaxPlant || slices.ContainsFunc(loops, isWrong) {
		return plant{}, false
	}
	return plant{times, loops}, true
}

// pass returns when each of some items leaves the last station.
func (p plant) pass(items int) []int {
	var done [][]int // by items, then by stations
	var out []int
	for k := range items {
		done = append(done, p.next(done))
		out = append(out, done[k][len(p.times)-1])
	}
	return out
}

// next returns when each station is done with the item after those that are done.
func (p plant) next(done [][]int) []int {
	before := func(items, station int) int {
		if items > len(done) {
			return 0
		}
		return done[len(done)-items][station]
	}
	var out []int
	came := 0
	for i, time := range p.times {
		start := max(came, before(1, i))
		for _, l := range p.loops {
			if l.From == i {
				start = max(start, before(l.Trays, l.To))
			}
		}
		came = start + time
		out = append(out, came)
	}
	return out
}

// rate returns the greatest of the times of stations and of what each loop takes
// for one of its trays. These are all cycles in which stations wait for one
// another: one waits for the station before it, or at the beginning of a loop for
// the end of it, so that a cycle that passes no station twice has one loop at
// most.
func (p plant) rate() api.Num {
	rate, _ := exact.Make(slices.Max(p.times), 1)
	for _, l := range p.loops {
		sum := 0
		for _, time := range p.times[l.From : l.To+1] {
			sum += time
		}
		share, _ := exact.Make(sum, l.Trays)
		if order, _ := exact.Cmp(rate, share); order < 0 {
			rate = share
		}
	}
	return rate
}
