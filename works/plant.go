package works

import (
	"slices"

	"cracknel/api"
	"cracknel/line"
)

// A plant is stations and loops of trays.
type plant struct {
	times []int
	loops []api.Loop
}

func (p *plant) clone() plant { return plant{slices.Clone(p.times), slices.Clone(p.loops)} }

func (w *Works) addStation(words []string) (string, api.Errno) {
	if len(w.plant.times) == api.MaxPlant {
		return "", api.ErrFull
	}
	w.plant.times = append(w.plant.times, numbers(words)...)
	return "", api.OK
}

func (w *Works) addLoop(words []string) (string, api.Errno) {
	if len(w.plant.loops) == api.MaxPlant {
		return "", api.ErrFull
	}
	list := numbers(words)
	w.plant.loops = append(w.plant.loops, api.Loop{From: list[0], To: list[1], Trays: list[2]})
	return "", api.OK
}

func (w *Works) runPlant(words []string) (string, api.Errno) {
	leaves, e := line.Plant(w.plant.times, w.plant.loops, numbers(words)[0])
	if e != api.OK {
		return "", e
	}
	rate, e := line.Rate(w.plant.times, w.plant.loops)
	if e != api.OK {
		return "", e
	}
	return number("leaves", leaves...) + value("rate", rate), api.OK
}
