package works_test

import (
	"strconv"
	"strings"
	"testing"

	"cracknel/api"
	"cracknel/works"
)

func TestRecipeLines(t *testing.T) {
	play(t, works.New(), `
> recipe
! 2
> recipe unit kg
> recipe unit kg
! 13
> recipe let flour = 3 [kg] / 4
> recipe let flour = 1
! 13
> recipe let x = 2 [kg] + 3
! 12
> recipe let x = 2 [
! 2
> recipe let x = y
! 13
> recipe #
! 2
> recipe   let   water=flour+1[kg]  
> value water
value 7/4
kg 1
> recipe fun sq(a) = a*a
> value sq
! 1
> type sq
params 1
free 1 2
kg 0 0
> type water
params 0
kg 1
> recipe let zero = 0
> type zero
params 0
free 1
kg 0
> recipe let bad = 1 / zero
> value bad
! 4
> value kg
! 6
> type kg
! 6
> value none
! 6
> recipe unit cup
> type water
params 0
kg 1
cup 0
> recipe let cake = flour * flour * 1 [cup^-3]
> value cake
value 9/16
kg 2
cup -3
> value zero
value 0
`)
}

// What is malformed as a line of the recipe is an error of recipe.Check, but an
// empty one is malformed as a line of the works.
func TestRecipeLineIsKept(t *testing.T) {
	w := prepared(t, "recipe unit kg", "recipe  unit  g ", "recipe let a = 1 [kg g]")
	for _, line := range []string{"recipe ", "recipe  ", "recipe    ", "recipe let", "recipe unit", "recipe unit unit", "recipe let b = 1 [m]", "recipe let b = c", "recipe\tlet b = 1", "recipe let b\t= 1"} {
		if got := w.Line(line); !isError(got) {
			t.Errorf("%q: %q", line, got)
		}
	}
	play(t, w, `
> value a
value 1
kg 1
g 1
> scale kg 3
> scale g 1/2
> recipe let b = a * a
> value b
value 9/4
kg 2
g 2
> recipe let c = 1 [g]
> value c
value 1/2
g 1
`)
}

// The recipe may have 8192 bytes, with a newline after each line.
func TestLengthOfRecipe(t *testing.T) {
	w := prepared(t, "recipe unit kg", "recipe let a = 1")
	left := api.MaxSource - len("unit kg\nlet a = 1\n")
	fill := "let b = 1" + strings.Repeat(" ", 4000-len("let b = 1\n"))
	do(t, w, "recipe "+fill)
	left -= 4000
	last := "let c = 2"
	expect(t, w, "recipe "+last+strings.Repeat(" ", left-len(last)), "! 3\n")
	expect(t, w, "value c", "! 6\n")
	expect(t, w, "recipe "+last+strings.Repeat(" ", 4080-len(last)), "")
	left -= 4081
	expect(t, w, "recipe let d = 3"+strings.Repeat(" ", left-len("let d = 3")), "! 3\n")
	expect(t, w, "recipe let d = 3"+strings.Repeat(" ", left-len("let d = 3\n")), "")
	expect(t, w, "recipe let e = 3", "! 3\n")
	for name, want := range map[string]string{"a": "value 1\n", "b": "value 1\n", "c": "value 2\n", "d": "value 3\n", "e": "! 6\n"} {
		expect(t, w, "value "+name, want)
	}
}

func TestUnitsOfRecipe(t *testing.T) {
	w := works.New()
	for i := range api.MaxUnits {
		unit := string(rune('m' + i))
		expect(t, w, "scale "+unit+" 2", "! 13\n")
		do(t, w, "recipe unit "+unit, "scale "+unit+" "+strconv.Itoa(i+2))
	}
	expect(t, w, "recipe unit x", "! 8\n")
	expect(t, w, "scale x 2", "! 13\n")
	do(t, w, "recipe let all = 1 [m n^2 o^-1 p^0] * 1 [p]")
	expect(t, w, "value all", "value 45/2\nm 1\nn 2\no -1\np 1\n") // 2 * 9 / 4 * 5
	expect(t, w, "type all", "params 0\nm 1\nn 2\no -1\np 1\n")
}

func TestScales(t *testing.T) {
	long := strings.Repeat("9", 40)
	w := prepared(t, "recipe unit kg", "recipe unit g", "recipe let a = 1 [kg]", "recipe let b = 1 [g]")
	for _, scale := range []string{"1", "2", "1/2", "7/3", long, "1/" + long, long + "/1" + strings.Repeat("0", 39)} {
		do(t, w, "scale kg "+scale)
		for _, wrong := range []string{"0", "-1", "-1/2", "-" + long, "1" + long, "1/1" + long, "1" + strings.Repeat("0", 40), "1" + long + "/2", "2/1" + long} {
			expect(t, w, "scale kg "+wrong, "! 1\n")
			expect(t, w, "scale none "+wrong, "! 13\n")
		}
		expect(t, w, "scale none "+scale, "! 13\n")
		expect(t, w, "value a", "value "+scale+"\nkg 1\n")
		expect(t, w, "value b", "value 1\ng 1\n")
	}
}

// A unit that is defined later has the scale 1, and others keep theirs.
func TestScaleOfNewUnit(t *testing.T) {
	play(t, works.New(), `
> recipe unit kg
> scale kg 1000
> recipe unit cup
> recipe let a = 1 [kg cup]
> value a
value 1000
kg 1
cup 1
> recipe unit kg
! 13
> value a
value 1000
kg 1
cup 1
> scale cup 1/4
> value a
value 250
kg 1
cup 1
> try scale cup 1
> value a
value 250
kg 1
cup 1
> recipe let b = 1 [cup]
> value b
value 1/4
cup 1
> clear recipe
> scale kg 1
! 13
> value a
! 6
> recipe unit cup
> recipe unit kg
> recipe let a = 1 [kg cup]
> value a
value 1
cup 1
kg 1
`)
}

// The units are in the order of their definitions.
func TestTypesInWorks(t *testing.T) {
	play(t, works.New(), `
> recipe unit z
> recipe unit a
> recipe fun f(a1, b) = a1*a1*a1 + b*b
> type f
params 2
free 2 3 6
z 0 0 0
a 0 0 0
> recipe fun g(p, q, r) = p*q + 2 [z a^3]
> type g
params 3
free 1 -1 0 0
free 0 0 1 0
z 0 1 0 1
a 0 3 0 3
> type h
! 6
> value f
! 1
> recipe fun c(p) = if p < 1 [a] then 1 else 0
> type c
params 1
z 0 0
a 1 0
> recipe let top = 2^9 * 3 [z^9]
> value top
value 1536
z 9
> recipe let big = top^9
> value big
value 47590573814949492091483324416
z 81
> type big
params 0
z 81
a 0
> scale z 1/10
> value top
value 3/1953125
z 9
`)
}

// Values may be too long, take too many steps, or have too great exponents.
func TestValuesThatFail(t *testing.T) {
	w := prepared(t, "recipe unit kg", "recipe let a = 9 ^ 9", "recipe let b = a ^ 9", "recipe let c = b ^ 9", "recipe let d = c ^ 9", "recipe let e = d * c * c", "recipe let u = 1 [kg^9]", "recipe let v = u ^ 9", "recipe let x = v ^ 9", "recipe let y = x ^ 9")
	expect(t, w, "value y", "! 5\n")
	expect(t, w, "value x", "value 1\nkg 729\n")
	expect(t, w, "value d", "! 5\n")
	if got := w.Line("value c"); !strings.HasPrefix(got, "value ") || len(got) < 600 {
		t.Errorf("value c: %q", got)
	}
	do(t, w, "recipe let f1 = a + a + a + a + a + a + a + a + a + a + a + a")
	for i := range 5 {
		name := "f" + strconv.Itoa(i+1)
		do(t, w, "recipe let f"+strconv.Itoa(i+2)+" = "+strings.Repeat(name+" + ", 11)+name)
	}
	expect(t, w, "value f6", "! 3\n")
	do(t, w, "cost 1")
	expect(t, w, "part 0 y", "! 5\n")
	expect(t, w, "part 0 f6", "! 3\n")
	expect(t, w, "part 0 d", "! 5\n")
	do(t, w, "part 0 f2")
}
