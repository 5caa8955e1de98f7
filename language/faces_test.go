package language_test

import (
	"testing"

	"cracknel/api"
	"cracknel/blend"
	"cracknel/exact"
	"cracknel/line"
	"cracknel/mirror"
	"cracknel/recipe"
	"cracknel/shape"
	"cracknel/shop"
	"cracknel/tile"
	"cracknel/whole"
	"cracknel/works"
)

type (
	num    = api.Num
	vector = []api.Num
	matrix = [][]api.Num
	shifts = []api.Shift
	points = []api.Point
	arcs   = []api.Arc
	loops  = []api.Loop
	sheet  = api.Sheet
	cuts   = []api.Cutter
	errno  = api.Errno
	disk   = mirror.Disk
	log    = mirror.Mirror
)

// The calls of all layers, with their exact signatures: this file compiles only
// if they are declared.
var (
	_ func(num) errno                                   = exact.Check
	_ func(num, den int) (num, errno)                   = exact.Make
	_ func(a, b num) (num, errno)                       = exact.Add
	_ func(a, b num) (num, errno)                       = exact.Sub
	_ func(a, b num) (num, errno)                       = exact.Mul
	_ func(a, b num) (num, errno)                       = exact.Div
	_ func(a, b num) (int, errno)                       = exact.Cmp
	_ func(num) (num, errno)                            = exact.Floor
	_ func(num) (int, errno)                            = exact.Int
	_ func(matrix, vector) (vector, errno)              = exact.Times
	_ func(matrix) (matrix, matrix, errno)              = exact.Hermite
	_ func(matrix) (vector, errno)                      = exact.Smith
	_ func(matrix) (num, errno)                         = exact.Det
	_ func(matrix, vector) (vector, errno)              = exact.Reduce
	_ func(matrix, vector) (vector, matrix, errno)      = exact.Solve
	_ func(matrix, vector) (vector, errno)              = exact.Refuse
	_ func(a matrix, b, y vector) (bool, errno)         = exact.Refutes
	_ func(api.Program) errno                           = blend.Check
	_ func(api.Program) (api.Answer, errno)             = blend.Solve
	_ func(api.Program, api.Answer) (bool, errno)       = blend.Right
	_ func(api.Program, int) (num, num, errno)          = blend.Spread
	_ func(api.Program, int, num, num) (corners, errno) = blend.Curve
)

type corners = []api.Corner

var (
	_ func(api.Program, []int, []int) ([]int, int, errno)            = whole.Solve
	_ func(api.Program, []int, []int) ([]api.Node, errno)            = whole.Prove
	_ func(api.Program, []int, []int, num, []api.Node) (bool, errno) = whole.Shows
	_ func(api.Program, []int, []int) (int, errno)                   = whole.Count
	_ func([]int, int) ([]int, errno)                                = whole.Bags
	_ func([]int) ([]int, errno)                                     = whole.Apery
	_ func([]int) (int, errno)                                       = whole.Frobenius
	_ func(points) (int, errno)                                      = shape.Area2
	_ func(points) (bool, errno)                                     = shape.Simple
	_ func(points) (bool, errno)                                     = shape.Convex
	_ func(points, api.Point) (int, errno)                           = shape.Where
	_ func(points) (points, errno)                                   = shape.Hull
	_ func(points) (points, errno)                                   = shape.Negative
	_ func(a, b points) (points, errno)                              = shape.Sum
	_ func(a, b points, by api.Point) (bool, errno)                  = shape.Apart
	_ func(points) (int, int, errno)                                 = shape.Lattice
	_ func(points) ([][3]int, errno)                                 = shape.Triangles
	_ func(points, [][3]int) (bool, errno)                           = shape.Shows
	_ func(int, int, []points) ([]api.Placed, errno)                 = shape.Nest
	_ func(api.Cutter) ([][]api.Point, errno)                        = tile.Ways
	_ func(sheet, cuts) (num, errno)                                 = tile.Count
	_ func(sheet, cuts, num) ([]api.Laid, errno)                     = tile.At
	_ func(sheet, cuts, []api.Laid) (num, errno)                     = tile.Rank
	_ func(sheet, cuts, []api.Laid) (bool, errno)                    = tile.Is
	_ func(sheet, cuts) (int, errno)                                 = tile.Most
	_ func(sheet, cuts, []int) (bool, errno)                         = tile.Balance
	_ func(int, arcs) (num, []int, errno)                            = line.Mean
	_ func(int, arcs, num) (vector, errno)                           = line.Potentials
	_ func(int, arcs) ([]int, errno)                                 = line.Critical
	_ func(int, arcs) (int, errno)                                   = line.Cyclicity
	_ func(int, arcs, []int, int) ([]int, errno)                     = line.Run
	_ func(int, arcs, []int) (int, int, int, errno)                  = line.Regime
	_ func([]int, loops, int) ([]int, errno)                         = line.Plant
	_ func([]int, loops) (num, errno)                                = line.Rate
	_ func(string) (int, errno)                                      = recipe.Check
	_ func(source, name string) (api.Scheme, errno)                  = recipe.Type
	_ func(api.Scheme, int, []int) (bool, errno)                     = recipe.Allows
	_ func(source, name string, a []api.Qty, s vector) (qty, errno)  = recipe.Eval
	_ func([][]int) (int, int, int, errno)                           = shop.Bound
	_ func([][]int) (shifts, errno)                                  = shop.Plan
	_ func([][]int, shifts) (num, errno)                             = shop.Does
	_ func([][]int) ([]api.Share, errno)                             = shop.Shares
	_ func([][]int, []api.Share) (bool, errno)                       = shop.Makes
	_ func(table [][]int, release, due []int) ([]shifts, errno)      = shop.Windows
	_ func(table [][]int, r, d []int, plan []shifts) (bool, errno)   = shop.Fits
	_ func(table [][]int, release, due []int) (api.Program, errno)   = shop.Program
	_ func(table [][]int, release, due []int) (vector, errno)        = shop.Refuse
)

type qty = api.Qty

var (
	_ func() *disk                      = mirror.NewDisk
	_ func(*disk, []byte) errno         = (*disk).Append
	_ func(*disk, int) errno            = (*disk).Cut
	_ func(*disk) errno                 = (*disk).Sync
	_ func(*disk, int)                  = (*disk).Arm
	_ func(*disk, int)                  = (*disk).Restart
	_ func(*disk)                       = (*disk).Lose
	_ func(*disk) []byte                = (*disk).Bytes
	_ func(*disk) bool                  = (*disk).Down
	_ func(*disk) bool                  = (*disk).Lost
	_ func(*disk) *disk                 = (*disk).Clone
	_ func([]*disk, int) errno          = mirror.Format
	_ func([]*disk) (*log, errno)       = mirror.Open
	_ func(*log, string) errno          = (*log).Post
	_ func(*log, int, *disk) errno      = (*log).Join
	_ func(*log) []string               = (*log).Log
	_ func(*log) []bool                 = (*log).Uses
	_ func(*log) bool                   = (*log).Broken
	_ func(*log) []*disk                = (*log).Disks
	_ func(*log) *log                   = (*log).Clone
	_ func() *works.Works               = works.New
	_ func(*works.Works, string) string = (*works.Works).Line
	_ func(*works.Works) []string       = (*works.Works).Log
	_ func(*works.Works) *works.Works   = (*works.Works).Clone
	_ func(string) (string, errno)      = works.Run
)

// The limits and the error codes that the tests and the document name.
func TestLimits(t *testing.T) {
	if api.MaxDigits != 4000 || api.MaxRows != 12 || api.ErrForm != 2 || api.ErrArg != 1 || api.ErrZero != 4 || api.ErrRange != 5 || api.ErrNone != 6 {
		t.Error("package api has changed")
	}
	if api.MaxVars != 32 || api.MaxLimits != 48 || api.AtMost != 1 || api.AtLeast != 2 || api.Equal != 3 || api.Optimal != 1 || api.Infeasible != 2 || api.Unbounded != 3 {
		t.Error("package api has changed")
	}
	if api.MaxWhole != 6 || api.MaxBox != 1000000 || api.MaxNodes != 10000 || api.MaxSizes != 8 || api.MaxSize != 2000 || api.MaxTotal != 1000000 || api.Split != 1 || api.Bound != 2 || api.Empty != 3 || api.ErrLong != 3 {
		t.Error("package api has changed")
	}
	if api.MaxSide != 6 || api.MaxCutters != 8 || api.MaxCells != 6 {
		t.Error("package api has changed")
	}
	if api.MaxStates != 16 || api.MaxArcs != 256 || api.MaxTime != 1000000 || api.MaxSteps != 100000 || api.MaxPlant != 8 || api.MaxTrays != 100 || api.MaxItems != 1000 {
		t.Error("package api has changed")
	}
	if api.MaxUnits != 4 || api.MaxDefs != 32 || api.MaxParams != 4 || api.MaxTokens != 128 || api.MaxPower != 9 || api.MaxFuel != 100000 || api.MaxSource != 8192 || api.MaxName != 12 || api.ErrFull != 8 || api.ErrType != 12 || api.ErrName != 13 {
		t.Error("package api has changed")
	}
	if api.MaxShop != 8 || api.MaxWork != 1000 {
		t.Error("package api has changed")
	}
	if api.MaxDisk != 65536 || api.MaxText != 100 || api.OK != 0 || api.ErrState != 7 || api.ErrDown != 9 || api.ErrLost != 10 || api.ErrFew != 11 {
		t.Error("package api has changed")
	}
	if api.MaxLine != 4096 || api.MaxLines != 2000 {
		t.Error("package api has changed")
	}
	if api.MaxCorners != 32 || api.MaxCoord != 10000 || api.MaxSheet != 100 || api.MaxNest != 16 {
		t.Error("package api has changed")
	}
}
