package whole

import (
	"container/heap"
	"slices"

	"cracknel/api"
	"cracknel/number"
)

// mostBoxes is how many boxes are examined at most.
const mostBoxes = 100000

// solve returns the cheapest solution, of several the lexicographically least
// one, and the least cost: with ErrRange too, but without a solution.
func (q problem) solve(b box) ([]int, number.Integer, api.Errno) {
	cheapest := &search{problem: q, isBefore: isCheaper}
	found, e := cheapest.run(b)
	if e != api.OK {
		return nil, number.Integer{}, e
	}
	least := found.bound
	if _, isInRange := least.Int(); !isInRange {
		return nil, least, api.ErrRange
	}
	first := &search{problem: q.costing(least), isBefore: isLess, examined: cheapest.examined}
	if found, e = first.run(b); e != api.OK {
		return nil, number.Integer{}, e
	}
	return found.point(), least, api.OK
}

// costing returns the problem of which the solutions are those with that cost,
// and cost nothing.
func (q problem) costing(cost number.Integer) problem {
	right, _ := number.Whole(cost).Text()
	return newProblem(api.Program{
		Cost: slices.Repeat([]api.Num{"0"}, len(q.Cost)),
		Rows: append(slices.Clip(q.Rows), api.Row{Coef: q.Cost, Kind: api.Equal, Right: right}),
	})
}

// A search goes through a box part by part, and is led by what linear programs
// say of the parts.
type search struct {
	problem
	open     []*outlook // a heap: parts that may have solutions, and are not split
	isBefore func(a, b *outlook) bool
	examined int // boxes so far
}

// run returns the outlook of a part whose x is a solution, and the best one: all
// other parts come after it in the order, and say of their solutions that they
// are no better.
func (s *search) run(b box) (*outlook, api.Errno) {
	s.examine(b, nil)
	for s.examined <= mostBoxes {
		if len(s.open) == 0 {
			return nil, api.ErrNone
		}
		next := heap.Pop(s).(*outlook)
		if next.isSolution {
			return next, api.OK
		}
		low, high := next.parts(next.cut())
		s.examine(low, next.tight)
		s.examine(high, next.tight)
	}
	return nil, api.ErrLong
}

func (s *search) examine(b box, chosen []int) {
	s.examined++
	if o := s.relax(b, chosen); !o.isEmpty {
		o.serial = s.examined
		heap.Push(s, o)
	}
}

// isCheaper orders outlooks by their bounds. Of equal ones a solution is first,
// and then what was found last: it may lead to a solution soon.
func isCheaper(a, b *outlook) bool {
	if order := a.bound.Compare(b.bound); order != 0 {
		return order < 0
	}
	if a.isSolution != b.isSolution {
		return a.isSolution
	}
	return a.serial > b.serial
}

// isLess orders outlooks that have the same bound by their points.
func isLess(a, b *outlook) bool {
	return slices.CompareFunc(a.x, b.x, number.Ratio.Compare) < 0
}

// Len is called by package heap, as are the methods below.
func (s *search) Len() int { return len(s.open) }

// Less reports whether an outlook is before another one.
func (s *search) Less(i, j int) bool { return s.isBefore(s.open[i], s.open[j]) }

// Swap exchanges two outlooks.
func (s *search) Swap(i, j int) { s.open[i], s.open[j] = s.open[j], s.open[i] }

// Push appends an outlook.
func (s *search) Push(x any) { s.open = append(s.open, x.(*outlook)) }

// Pop removes the last outlook.
func (s *search) Pop() any {
	last := len(s.open) - 1
	out := s.open[last]
	s.open = s.open[:last]
	return out
}
