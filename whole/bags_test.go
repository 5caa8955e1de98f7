package whole_test

import (
	"math"
	"math/rand"
	"slices"
	"testing"

	"cracknel/api"
	"cracknel/whole"
)

// Example 3 of the chapter, and example 3 of the document.
func TestBagsExamples(t *testing.T) {
	if counts, e := whole.Bags([]int{1, 5, 8}, 10); e != api.OK || !slices.Equal(counts, []int{0, 2, 0}) {
		t.Errorf("Bags = %v, error %d", counts, e)
	}
	if totals, e := whole.Apery([]int{3, 5}); e != api.OK || !slices.Equal(totals, []int{0, 10, 5}) {
		t.Errorf("Apery = %v, error %d", totals, e)
	}
	if n, e := whole.Frobenius([]int{3, 5}); e != api.OK || n != 7 {
		t.Errorf("Frobenius = %d, error %d", n, e)
	}
}

func expectBags(t *testing.T, sizes []int, total int, want []int) {
	t.Helper()
	got, e := whole.Bags(sizes, total)
	wanted := api.OK
	if want == nil {
		wanted = api.ErrNone
	}
	if e != wanted || !slices.Equal(got, want) {
		t.Errorf("Bags(%v, %d) = %v, error %d, want %v, error %d", sizes, total, got, e, want, wanted)
	}
}

func TestBags(t *testing.T) {
	for _, c := range []struct {
		sizes, want []int
		total       int
	}{
		{[]int{7}, []int{0}, 0}, {[]int{1}, []int{1000000}, 1000000}, {[]int{2000}, []int{500}, 1000000}, {[]int{2000}, nil, 999999},
		{[]int{3, 5}, nil, 7}, {[]int{3, 5}, []int{1, 1}, 8}, {[]int{3, 5}, []int{0, 2}, 10}, {[]int{3, 5}, nil, 1}, {[]int{5, 3}, []int{3, 0}, 15},
		// Sizes that repeat, and have a common divisor.
		{[]int{4, 4}, []int{0, 3}, 12}, {[]int{4, 6, 4}, []int{0, 0, 1}, 4}, {[]int{4, 6, 4}, []int{0, 1, 1}, 10}, {[]int{4, 6}, nil, 11}, {[]int{4, 6}, nil, 2},
		{[]int{9, 9, 9, 9, 9, 9, 9, 9}, []int{0, 0, 0, 0, 0, 0, 0, 7}, 63}, {[]int{2000, 2000}, []int{0, 500}, 1000000},
		// As many bags: 1 + 6 or 3 + 4; 2 + 2 or 1 + 3.
		{[]int{1, 3, 4, 6}, []int{0, 1, 1, 0}, 7}, {[]int{6, 4, 3, 1}, []int{0, 1, 1, 0}, 7}, {[]int{2, 1, 3}, []int{0, 1, 1}, 4}, {[]int{3, 1, 2}, []int{0, 0, 2}, 4},
		// The greatest sizes are not the best ones.
		{[]int{1, 10, 25}, []int{0, 3, 0}, 30}, {[]int{1999, 2000}, []int{1, 0}, 1999}, {[]int{1999, 2000}, []int{0, 500}, 1000000}, {[]int{1999, 2000}, []int{1, 499}, 999999},
		{[]int{1, 2, 4, 8, 16, 32, 64, 128}, []int{1, 1, 1, 1, 1, 1, 1, 7811}, 127 + 7811*128}, {[]int{997, 1009, 2000}, []int{0, 0, 500}, 1000000},
	} {
		expectBags(t, c.sizes, c.total, c.want)
	}
}

// some returns random sizes.
func some(r *rand.Rand, most int) []int {
	out := make([]int, between(r, 1, 4))
	for i := range out {
		out[i] = between(r, 1, most)
	}
	return out
}

// fewest tries all counts from an index on, lexicographically rising.
func fewest(sizes []int, total int) []int {
	if len(sizes) == 0 {
		if total > 0 {
			return nil
		}
		return []int{}
	}
	var best []int
	least := math.MaxInt
	for n := 0; n*sizes[0] <= total; n++ {
		rest := fewest(sizes[1:], total-n*sizes[0])
		count := n
		for _, k := range rest {
			count += k
		}
		if rest != nil && count < least {
			best, least = append([]int{n}, rest...), count
		}
	}
	return best
}

func TestRandomBags(t *testing.T) {
	r := rand.New(rand.NewSource(21))
	for range 3000 {
		sizes, total := some(r, 12), r.Intn(40)
		expectBags(t, sizes, total, fewest(sizes, total))
	}
}

// canMake returns which totals up to a limit can be made.
func canMake(sizes []int, limit int) []bool {
	out := make([]bool, limit+1)
	out[0] = true
	for total := range out {
		for _, size := range sizes {
			out[total] = out[total] || total >= size && out[total-size]
		}
	}
	return out
}

func divisorOf(sizes []int) int {
	d := slices.Min(sizes)
	for slices.ContainsFunc(sizes, func(n int) bool { return n%d != 0 }) {
		d--
	}
	return d
}

// W5: Apery's numbers, Frobenius's number and Bags agree on what can be made.
func TestApery(t *testing.T) {
	r := rand.New(rand.NewSource(22))
	cases := [][]int{{1}, {1, 1}, {2, 3}, {2, 3, 3}, {6, 10, 15}, {15, 10, 6}, {6, 9, 20}, {1, 2000}, {2000, 1}, {4, 4, 7}, {30, 42, 70, 105}, {8, 9, 10, 11, 12, 13, 14, 15}}
	for range 300 {
		cases = append(cases, some(r, 30))
	}
	for _, sizes := range cases {
		totals, e := whole.Apery(sizes)
		greatest, f := whole.Frobenius(sizes)
		if divisorOf(sizes) > 1 {
			if e != api.ErrNone || len(totals) > 0 || f != api.ErrNone || greatest != 0 {
				t.Errorf("Apery(%v) = %v, error %d; Frobenius: %d, error %d", sizes, totals, e, greatest, f)
			}
			continue
		}
		least := slices.Min(sizes)
		if e != api.OK || f != api.OK || len(totals) != least {
			t.Fatalf("Apery(%v) = %v, error %d; Frobenius: %d, error %d", sizes, totals, e, greatest, f)
		}
		can := canMake(sizes, 2000)
		last := -1
		for total, isMade := range can {
			if !isMade {
				last = total
			}
			if isMade != (total >= totals[total%least]) {
				t.Errorf("Apery(%v) = %v, but %d", sizes, totals, total)
			}
			if total > 60 {
				continue
			}
			if _, e := whole.Bags(sizes, total); (e == api.OK) != isMade {
				t.Errorf("Bags(%v, %d): error %d", sizes, total, e)
			}
		}
		if greatest != last || greatest != slices.Max(totals)-least {
			t.Errorf("Frobenius(%v) = %d, want %d", sizes, greatest, last)
		}
		for rest, total := range totals {
			if total%least != rest || !can[total] {
				t.Errorf("Apery(%v) = %v", sizes, totals)
			}
		}
	}
}

// W6, up to the greatest sizes.
func TestSylvester(t *testing.T) {
	pairs := [][2]int{{1999, 2000}, {2000, 1999}, {1, 2000}, {1, 1}, {2, 1999}, {1997, 1999}, {1024, 729}}
	for a := range 40 {
		for b := range 40 {
			pairs = append(pairs, [2]int{a + 1, b + 1})
		}
	}
	for _, pair := range pairs {
		a, b := pair[0], pair[1]
		if divisorOf(pair[:]) > 1 {
			continue
		}
		greatest, e := whole.Frobenius(pair[:])
		if e != api.OK || greatest != a*b-a-b {
			t.Errorf("Frobenius(%v) = %d, error %d", pair, greatest, e)
		}
		totals, _ := whole.Apery(pair[:])
		missing := 0
		for total := range greatest + 1 {
			if total < totals[total%len(totals)] {
				missing++
			}
		}
		if 2*missing != greatest+1 {
			t.Errorf("of %v %d totals up to %d cannot be made", pair, missing, greatest)
		}
	}
}

func TestInvalidSizes(t *testing.T) {
	for _, sizes := range [][]int{
		nil, {}, {0}, {-1}, {2001}, {1, 0}, {0, 1}, {3, 5, -2}, {3, 2001}, {math.MaxInt}, {math.MinInt}, {1, math.MaxInt, 2}, {4, 6, 0},
		{1, 1, 1, 1, 1, 1, 1, 1, 1}, {2, 3, 4, 5, 6, 7, 8, 9, 10}, slices.Repeat([]int{2}, 1000),
	} {
		for _, total := range []int{0, 7, -1} {
			if counts, e := whole.Bags(sizes, total); e != api.ErrArg || len(counts) > 0 {
				t.Errorf("Bags(%v, %d) = %v, error %d", sizes, total, counts, e)
			}
		}
		if totals, e := whole.Apery(sizes); e != api.ErrArg || len(totals) > 0 {
			t.Errorf("Apery(%v) = %v, error %d", sizes, totals, e)
		}
		if n, e := whole.Frobenius(sizes); e != api.ErrArg || n != 0 {
			t.Errorf("Frobenius(%v) = %d, error %d", sizes, n, e)
		}
	}
	for _, total := range []int{-1, -1000000, 1000001, math.MaxInt, math.MinInt} {
		if counts, e := whole.Bags([]int{2, 4}, total); e != api.ErrArg || len(counts) > 0 {
			t.Errorf("Bags of %d = %v, error %d", total, counts, e)
		}
	}
	// Sizes at both ends.
	for _, sizes := range [][]int{{2000}, {1000, 2000}, {2, 2000, 1998}} {
		if totals, e := whole.Apery(sizes); e != api.ErrNone || len(totals) > 0 {
			t.Errorf("Apery(%v) = %v, error %d", sizes, totals, e)
		}
		if n, e := whole.Frobenius(sizes); e != api.ErrNone || n != 0 {
			t.Errorf("Frobenius(%v) = %d, error %d", sizes, n, e)
		}
	}
	if n, e := whole.Frobenius([]int{1}); n != -1 || e != api.OK {
		t.Errorf("Frobenius = %d, error %d", n, e)
	}
}
