package works_test

import (
	"fmt"
	"math/big"
	"math/rand"
	"slices"
	"strconv"
	"strings"
	"testing"

	"cracknel/api"
	"cracknel/works"
)

// P2: lines that reply with an error can be left out, but those that say so, and
// open.
func TestRefusedLinesChangeNothing(t *testing.T) {
	for seed := range 400 {
		r := rand.New(rand.NewSource(int64(seed)))
		w := works.New()
		var kept, replies []string
		for range 80 {
			line := randomLine(r)
			reply := w.Line(line)
			isTried := strings.HasPrefix(line, "try ")
			mayChange := reply == "! 11\n" || reply == "! 9\n" || line == "open"
			if isTried || isError(reply) && !mayChange {
				continue
			}
			kept = append(kept, line)
			replies = append(replies, reply)
		}
		again := works.New()
		for i, line := range kept {
			if got := again.Line(line); got != replies[i] {
				t.Fatalf("seed %d: %q without refused lines: %q, not %q", seed, line, got, replies[i])
			}
		}
		if view(again) != view(w) {
			t.Fatalf("seed %d: refused lines have changed the works", seed)
		}
	}
}

// Lines that are refused with each of the errors, one by one.
func TestRefusedLinesOneByOne(t *testing.T) {
	w := full(t)
	for _, line := range []string{
		"recipe let x = 1 +", "recipe let x = y", "recipe let x = 1 + flour", "recipe unit flour", "recipe unit kg", "recipe " + strings.Repeat("x ", 129), "scale kg 0", "scale kg -1", "scale g 1", "scale kg 2/4",
		"cost", "cost x", "cost 1 2 2/4", "row most", "row none 1 1 1", "row most 1 1 x", "part 2 flour", "part -1 flour", "part 0 none", "part 1 kg", "box 1", "box 1 2 3", "box 1 2 x 3",
		"sheet 0 1", "sheet 7 1", "sheet 1", "sheet 1 x", "hole 0 0", "hole 3 0", "hole 0 2", "hole 0", "cutter none 0 0", "cutter turn 0", "cutter turn", "cutter turn 0 x", "tiling 1/2", "tiling 99",
		"nodes 0", "nodes 17", "nodes x", "arc 1 1", "arc 1 1 x", "station", "station x", "station 1 2", "loop 1 1", "loop 1 1 x", "plant -1", "plant 1001", "job", "job x", "job 1 x",
		"window 3 0 1", "window 0 1 1", "window 0 -1 1", "window 0 0 10001", "window 0 0", "post " + strings.Repeat("x", 101), "post  ", "arm 3 1", "arm 0", "arm 0 x", "restart 3 0", "restart 0", "lose 3", "lose", "lose x",
		"join 0", "join 1", "join 3", "join", "clear", "clear all", "clear recipe sheet", "try", "try ", "try try clear recipe", "try clear", " clear recipe", "clear recipe ", "Clear recipe", strings.Repeat("x", 4097),
	} {
		before := view(w)
		if got := w.Line(line); !isError(got) || got == "! 11\n" || got == "! 9\n" {
			t.Errorf("%.100q: %q", line, got)
		}
		if view(w) != before {
			t.Fatalf("%.100q has changed the works", line)
		}
	}
}

// P3: what is tried changes nothing, and replies like the line itself.
func TestTry(t *testing.T) {
	for seed := range 100 {
		r := rand.New(rand.NewSource(int64(seed)))
		w := works.New()
		for range 60 {
			line := randomLine(r)
			before := ""
			if r.Intn(4) == 0 {
				before = view(w)
			}
			tried := w.Line("try " + line)
			if before != "" && view(w) != before {
				t.Fatalf("seed %d: try %q has changed the works", seed, line)
			}
			first, _, _ := strings.Cut(line, " ")
			if first == "try" || line == "" {
				if tried != "! 2\n" {
					t.Fatalf("try %q: %q", line, tried)
				}
				w.Line(line)
				continue
			}
			if got := w.Line(line); got != tried {
				t.Fatalf("seed %d: %q replies %q, but tried %q", seed, line, got, tried)
			}
		}
	}
}

func TestFormOfTry(t *testing.T) {
	w := full(t)
	before := view(w)
	for line, want := range map[string]string{
		"try": "! 2\n", "try ": "! 2\n", "try  ": "! 2\n", "try try": "! 2\n", "try try uses": "! 2\n", "try try ": "! 2\n", "try  try uses": "! 2\n", "try  uses": "! 2\n", "try uses ": "! 2\n",
		"try tryuses": "! 2\n", "try #": "", "try # try": "", "try #try": "", "try x": "! 2\n", "try uses": "uses yes yes no\n", "try recipe": "! 2\n", "try recipe ": "! 2\n",
		"try recipe unit g": "", "try recipe unit kg": "! 13\n", "try log": "entry a\nentry b\nentry\n", "try post try": "entry 3\n", "try post try again": "entry 3\n", "try clear recipe": "", "try clear x": "! 2\n",
		"try arm 0 1": "", "try lose 0": "", "try lose 3": "! 1\n", "try open": "", "try join 0": "! 1\n", "try\ttry": "! 2\n", "try\tuses": "! 2\n",
		"try " + strings.Repeat("#", 4092): "", "try " + strings.Repeat("#", 4093): "! 3\n", "try " + strings.Repeat("x", 4092): "! 2\n", "try try" + strings.Repeat("x", 4090): "! 3\n",
	} {
		expect(t, w, line, want)
		if view(w) != before {
			t.Fatalf("%.100q has changed the works", line)
		}
	}
}

// has reports whether a log has some entries, in their order.
func has(log, entries []string) bool {
	for _, entry := range entries {
		at := slices.Index(log, entry)
		if at < 0 {
			return false
		}
		log = log[at+1:]
	}
	return true
}

// P4: two disks go down in any of their acts, any disk is lost, and the others are
// restarted with any bytes.
func TestDurableInEveryCourse(t *testing.T) {
	courses := 0
	for _, arms := range []string{"01", "02", "12", "10", "20", "21"} {
		for first := 1; first <= 5; first++ {
			for second := 0; second <= 5; second++ {
				w := prepared(t, fmt.Sprintf("arm %c %d", arms[0], first), fmt.Sprintf("arm %c %d", arms[1], second))
				var entries []string
				for _, entry := range []string{"a", "b", "c"} {
					if reply := w.Line("post " + entry); !isError(reply) {
						entries = append(entries, entry)
					}
				}
				for lost := range 4 {
					for _, keep := range []string{"0", "7", "1000"} {
						expectDurable(t, w.Clone(), lost, keep, entries)
						courses++
					}
				}
			}
		}
	}
	if courses != 6*5*6*4*3 {
		t.Errorf("%d courses", courses)
	}
}

// expectDurable loses a disk (or none, if there is no such place), restarts the
// others, and expects the log to have the entries, also if it goes on from there.
func expectDurable(t *testing.T, w *works.Works, lost int, keep string, entries []string) {
	t.Helper()
	w.Line("lose " + strconv.Itoa(lost))
	for place := range 3 {
		do(t, w, "restart "+strconv.Itoa(place)+" "+keep)
	}
	expect(t, w, "open", "")
	log := w.Log()
	if !has(log, entries) {
		t.Fatalf("lost %d, kept %s: the log is %q, without all of %q", lost, keep, log, entries)
	}
	expect(t, w, "post z", "entry "+strconv.Itoa(len(log))+"\n")
	if lost < 3 {
		do(t, w, "join "+strconv.Itoa(lost), "lose "+strconv.Itoa((lost+1)%3), "open")
	}
	if want := append(slices.Clone(log), "z"); !slices.Equal(w.Log(), want) {
		t.Fatalf("the log is %q, not %q", w.Log(), want)
	}
}

// A crash is a course in which disks go down, are lost and are replaced at random.
type crash struct {
	*rand.Rand
	w       *works.Works
	entries []string // those that were replied to with their number
	isWhole bool     // no disk has been lost since the last open or join that succeeded
	posts   int
}

func (c *crash) step(t *testing.T) {
	t.Helper()
	place := strconv.Itoa(c.Intn(3))
	switch c.Intn(10) {
	case 0, 1, 2:
		c.posts++
		entry := "x" + strconv.Itoa(c.posts)
		n := len(c.w.Log())
		reply := c.w.Line("post " + entry)
		if reply == "entry "+strconv.Itoa(n)+"\n" {
			c.entries = append(c.entries, entry)
		} else if !isError(reply) {
			t.Fatalf("post: %q", reply)
		}
	case 3, 4:
		c.w.Line("arm " + place + " " + strconv.Itoa(c.Intn(7)))
	case 5, 6:
		c.w.Line("restart " + place + " " + strconv.Itoa(c.Intn(40)))
	case 7:
		if c.isWhole && c.Intn(3) == 0 {
			c.w.Line("lose " + place)
			c.isWhole = false
		}
	case 8:
		if c.w.Line("join "+place) == "" {
			c.isWhole = true
		}
	default:
		if c.w.Line("open") == "" {
			c.isWhole = true
		}
	}
	if !has(c.w.Log(), c.entries) {
		t.Fatalf("the log is %q, without all of %q", c.w.Log(), c.entries)
	}
}

// rescue expects the log to be opened from what is left, if that is enough.
func (c *crash) rescue(t *testing.T) {
	t.Helper()
	w := c.w.Clone()
	if c.isWhole {
		w.Line("lose " + strconv.Itoa(c.Intn(3)))
	}
	for place := range 3 {
		w.Line("restart " + strconv.Itoa(place) + " " + strconv.Itoa(c.Intn(40)))
	}
	if w.Line("open") == "" && !has(w.Log(), c.entries) {
		t.Fatalf("opened again, the log is %q, without all of %q", w.Log(), c.entries)
	}
}

func TestDurableThroughCrashes(t *testing.T) {
	entries := 0
	for seed := range 600 {
		c := &crash{Rand: rand.New(rand.NewSource(int64(seed))), w: works.New(), isWhole: true}
		for range 120 {
			c.step(t)
			c.rescue(t)
		}
		entries += len(c.entries)
	}
	if entries < 3000 {
		t.Errorf("only %d entries", entries)
	}
}

// The document's P4: a value is multiplied by what the scales are, to the power of
// its exponents.
func TestValuesChangeWithScales(t *testing.T) {
	r := rand.New(rand.NewSource(7))
	values := 0
	for range 600 {
		w := prepared(t, "recipe unit kg", "recipe unit cup")
		draw := writer{r}
		for range 20 {
			w.Line(draw.definition())
		}
		scales := []string{pick(r, "2 3 1/2 7/5 10"), pick(r, "1 5 2/3 1/100")}
		for _, name := range []string{"a", "b", "flour", "mix", "f", "a1", "b1", "c"} {
			before := w.Clone().Line("value " + name)
			if isError(before) {
				continue
			}
			c := w.Clone()
			do(t, c, "scale kg "+scales[0], "scale cup "+scales[1])
			value, exponents := readValue(t, before)
			for i, unit := range []string{"kg", "cup"} {
				value.Mul(value, power(scales[i], exponents[unit]))
			}
			_, rest, _ := strings.Cut(before, "\n")
			expect(t, c, "value "+name, "value "+value.RatString()+"\n"+rest)
			if len(exponents) > 0 {
				values++
			}
		}
	}
	if values < 300 {
		t.Errorf("only %d values with units", values)
	}
}

func readValue(t *testing.T, reply string) (*big.Rat, map[string]int) {
	t.Helper()
	lines := strings.Split(strings.TrimSuffix(reply, "\n"), "\n")
	value, isValue := new(big.Rat).SetString(strings.TrimPrefix(lines[0], "value "))
	if !isValue {
		t.Fatalf("%q", reply)
	}
	exponents := map[string]int{}
	for _, line := range lines[1:] {
		unit, word, _ := strings.Cut(line, " ")
		n, err := strconv.Atoi(word)
		if err != nil || n == 0 {
			t.Fatalf("%q", reply)
		}
		exponents[unit] = n
	}
	return value, exponents
}

func power(base string, exponent int) *big.Rat {
	x, _ := new(big.Rat).SetString(base)
	if exponent < 0 {
		return power(x.Inv(x).RatString(), -exponent)
	}
	out := big.NewRat(1, 1)
	for range exponent {
		out.Mul(out, x)
	}
	return out
}

// What is best is so for the lines, too: an optimum is feasible, costs what the reply
// says, and is no dearer than any integer point of the box.
func TestOptimaOfLines(t *testing.T) {
	r := rand.New(rand.NewSource(8))
	optima := 0
	for range 400 {
		cost := []int{r.Intn(9), r.Intn(9)}
		row := []int{1 + r.Intn(9), 1 + r.Intn(9)}
		right := r.Intn(30)
		w := prepared(t, fmt.Sprintf("cost %d %d", cost[0], cost[1]), fmt.Sprintf("row least %d %d %d", right, row[0], row[1]), "box 0 6 0 6")
		best, want := -1, "! 6\n"
		for x := range 7 {
			for y := range 7 {
				c := cost[0]*x + cost[1]*y
				if row[0]*x+row[1]*y >= right && (best < 0 || c < best) {
					best, want = c, fmt.Sprintf("x %d %d\ncost %d\n", x, y, c)
				}
			}
		}
		expect(t, w, "whole", want)
		var value api.Num
		if reply := w.Line("blend"); strings.HasPrefix(reply, "optimal ") {
			first, _, _ := strings.Cut(reply, "\n")
			value = api.Num(strings.TrimPrefix(first, "optimal "))
			optima++
		}
		if relaxed, isNum := new(big.Rat).SetString(string(value)); !isNum || best >= 0 && relaxed.Cmp(big.NewRat(int64(best), 1)) > 0 {
			t.Errorf("the program costs %q, its integer points %d", value, best)
		}
	}
	if optima < 300 {
		t.Errorf("only %d optima", optima)
	}
}
