package works

import (
	"slices"

	"cracknel/api"
	"cracknel/shop"
)

const latest = 10000

// Jobs are a work table, with a window for each job.
type jobs struct {
	table        [][]int // its rows are never changed
	release, due []int
}

func (j *jobs) clone() jobs {
	return jobs{slices.Clone(j.table), slices.Clone(j.release), slices.Clone(j.due)}
}

func (w *Works) addJob(words []string) (string, api.Errno) {
	if len(w.jobs.table) == api.MaxShop {
		return "", api.ErrFull
	}
	w.jobs.table = append(w.jobs.table, numbers(words))
	w.jobs.release = append(w.jobs.release, 0)
	w.jobs.due = append(w.jobs.due, latest)
	return "", api.OK
}

func (w *Works) setWindow(words []string) (string, api.Errno) {
	list := numbers(words)
	job, release, due := list[0], list[1], list[2]
	isJob := job >= 0 && job < len(w.jobs.table)
	if !isJob || release < 0 || release >= due || due > latest {
		return "", api.ErrArg
	}
	w.jobs.release[job], w.jobs.due[job] = release, due
	return "", api.OK
}

func (w *Works) showLoad([]string) (string, api.Errno) {
	load, kind, at, e := shop.Bound(w.jobs.table)
	if e != api.OK {
		return "", e
	}
	who := "job"
	if kind == 1 {
		who = "machine"
	}
	return number("load", load) + number(who, at), api.OK
}

func (w *Works) tryWindows([]string) (string, api.Errno) {
	if _, e := shop.Windows(w.jobs.table, w.jobs.release, w.jobs.due); e != api.OK {
		return "", e
	}
	return text("fits"), api.OK
}
