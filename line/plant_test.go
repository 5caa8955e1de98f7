package line_test

import (
	"math/rand"
	"slices"
	"testing"

	"cracknel/api"
	"cracknel/line"
)

func TestPlantByHand(t *testing.T) {
	times := []int{2, 3, 1}
	expectPlant(t, times, rings("0 1 1"), 3, []int{6, 11, 16})
	expectRate(t, times, rings("0 1 1"), ratio(5, 1))
	expectPlant(t, times, nil, 3, []int{6, 9, 12})
	expectRate(t, times, nil, ratio(3, 1))
	expectPlant(t, times, rings("0 1 2"), 4, []int{6, 9, 12, 15})
	expectRate(t, times, rings("0 1 2"), ratio(3, 1))
	// Trays of a loop of all stations: two items at a time are under way.
	expectPlant(t, times, rings("0 2 2"), 5, []int{6, 9, 12, 15, 18})
	expectPlant(t, []int{2, 2, 2}, rings("0 2 2"), 6, []int{6, 8, 12, 14, 18, 20})
	expectRate(t, []int{2, 2, 2}, rings("0 2 2"), ratio(3, 1))
	expectPlant(t, []int{1, 1, 1, 1, 1}, rings("0 4 3"), 7, []int{5, 6, 7, 10, 11, 12, 15})
	expectRate(t, []int{1, 1, 1, 1, 1}, rings("0 4 3"), ratio(5, 3))
	// A loop of one station does not matter, one that begins behind it does.
	expectPlant(t, times, rings("1 1 1"), 3, []int{6, 9, 12})
	expectRate(t, times, rings("1 1 1"), ratio(3, 1))
	expectPlant(t, times, rings("1 2 1"), 3, []int{6, 10, 14})
	expectRate(t, times, rings("1 2 1"), ratio(4, 1))
	// The first station runs ahead, and the last one works later.
	expectPlant(t, []int{0, 0, 5}, nil, 3, []int{5, 10, 15})
	expectPlant(t, []int{7, 0, 0}, nil, 3, []int{7, 14, 21})
	expectRate(t, []int{0, 0, 5}, nil, ratio(5, 1))
	// One station, and times of 0.
	expectPlant(t, []int{4}, nil, 3, []int{4, 8, 12})
	expectRate(t, []int{4}, nil, ratio(4, 1))
	expectPlant(t, []int{0}, rings("0 0 1"), 3, []int{0, 0, 0})
	expectRate(t, []int{0}, nil, ratio(0, 1))
	expectPlant(t, make([]int, 8), rings("0 7 1"), 2, []int{0, 0})
	expectRate(t, make([]int, 8), rings("0 7 1"), ratio(0, 1))
	expectPlant(t, []int{4}, nil, 0, nil)
	// Several loops: the greatest one counts, wherever it is.
	expectRate(t, []int{3, 3, 3, 3}, rings("0 1 1, 1 3 2, 2 3 1, 0 3 4"), ratio(6, 1))
	expectRate(t, []int{3, 1, 4, 1}, rings("0 3 2, 1 2 1, 0 1 1"), ratio(5, 1))
	expectRate(t, []int{3, 1, 4, 1}, rings("1 2 3, 0 3 2, 0 1 1"), ratio(9, 2))
}

// The limits that the document names are allowed.
func TestExtremePlants(t *testing.T) {
	slow := slices.Repeat([]int{api.MaxTime}, api.MaxPlant)
	all := slices.Repeat(rings("0 7 1"), api.MaxPlant)
	out, e := line.Plant(slow, all, api.MaxItems)
	if e != api.OK || len(out) != api.MaxItems || out[0] != 8000000 || out[999] != 8000000000 {
		t.Errorf("%v, error %d", out, e)
	}
	expectRate(t, slow, all, ratio(8000000, 1))
	expectRate(t, slow, rings("0 7 100"), ratio(api.MaxTime, 1))
	expectRate(t, slow, rings("0 7 7"), ratio(8000000, 7))
	trays := rings("0 1 100")
	want := leaving([]int{1, 200}, trays, api.MaxItems)
	expectPlant(t, []int{1, 200}, trays, api.MaxItems, want)
	// The tray that the 101st item carries was the first one's.
	lone := slices.Repeat([]int{0}, 6)
	lone = append(lone, 1, 1)
	expectPlant(t, lone, rings("0 7 100"), api.MaxItems, leaving(lone, rings("0 7 100"), api.MaxItems))
	expectPlant(t, slow, rings("7 7 100, 0 0 100"), 1, []int{8000000})
}

func TestPlant(t *testing.T) {
	r := rand.New(rand.NewSource(9))
	for i := range 3000 {
		times, ls := somePlant(r, between(r, 1, 8), r.Intn(9), []int{0, 1, 5, api.MaxTime}[i%4], []int{1, 3, 10, 100}[i%3])
		items := r.Intn(40)
		expectPlant(t, times, ls, items, leaving(times, ls, items))
	}
	for range 10 {
		times, ls := somePlant(r, 8, 8, 9, 100)
		expectPlant(t, times, ls, api.MaxItems, leaving(times, ls, api.MaxItems))
	}
}

func TestRate(t *testing.T) {
	r := rand.New(rand.NewSource(10))
	slow := 0
	for i := range 5000 {
		times, ls := somePlant(r, between(r, 1, 8), r.Intn(9), []int{0, 1, 5, api.MaxTime}[i%4], []int{1, 3, 20}[i%3])
		want := rateBy(times, ls)
		expectRate(t, times, ls, want)
		if want.Cmp(ratio(slices.Max(times), 1)) > 0 {
			slow++
		}
	}
	if slow < 500 {
		t.Errorf("%d plants are slowed down by loops", slow)
	}
}
