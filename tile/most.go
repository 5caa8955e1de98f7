package tile

import "cracknel/api"

// A search looks for pieces that cover what is left, but for some cells.
type search struct {
	plan
	needed map[cells]int // for what is left: how much waste it needs at least, as far as is known
}

// most returns the greatest number of cells that can be covered: it allows more
// and more waste, and none that no pieces could leave.
func (b bench) most() int {
	s := search{b.newPlan(b.free), map[cells]int{}}
	sums := b.sums()
	all := b.free.size()
	for waste := range all {
		if sums[all-waste] && s.covers(b.free, 0, waste) {
			return all - waste
		}
	}
	return 0
}

// sums returns for each number of cells whether it is a sum of sizes of pieces.
func (b bench) sums() [api.MaxSide*api.MaxSide + 1]bool {
	out := [api.MaxSide*api.MaxSide + 1]bool{true}
	var isSize [api.MaxCells + 1]bool
	for _, p := range b.pieces {
		isSize[p.cells.size()] = true
	}
	for n := range out {
		for size, is := range isSize {
			if is && size <= n && out[n-size] {
				out[n] = true
			}
		}
	}
	return out
}

// covers reports whether what is left, of which no cell is before that one in the
// order, can be covered but for as many cells as waste says, or fewer.
func (s *search) covers(left cells, from, waste int) bool {
	from = s.next(left, from)
	if from == len(s.order) {
		return true
	}
	if waste < s.needed[left] {
		return false
	}
	for _, p := range s.pieces[from] {
		if left.holds(p) && s.covers(left.without(p), from+1, waste) {
			return true
		}
	}
	rest := left.without(cells{}.with(s.order[from]))
	if waste > 0 && s.covers(rest, from+1, waste-1) {
		return true
	}
	s.needed[left] = waste + 1
	return false
}
