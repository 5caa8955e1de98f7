package recipe_test

import (
	"fmt"
	"strings"
	"testing"

	"cracknel/api"
)

// A definition's name, and the parameters of a function, are new, and different.
func TestTakenNames(t *testing.T) {
	for _, name := range []string{"kg", "m", "one", "mass", "nil", "sq", "mix", "four"} {
		expectLines(t, api.ErrName, "unit "+name, "let "+name+" = 1", "fun "+name+"(x) = x", "fun x("+name+") = 1", "fun x(a, "+name+") = a", "fun x(a, b, c, "+name+") = a", "fun x("+name+", a) = a")
	}
	expectLines(t, api.ErrName, "fun x(a, a) = a", "fun x(a, b, a) = a", "fun x(a, b, c, b) = a", "fun x(a, b, b) = a", "fun x(x) = x", "fun x(a, x) = a", "fun x(a, b, c, x) = a", "fun x(x, x) = x")
	// Parameters are of their function alone.
	expectLines(t, api.OK, "fun x(a) = a", "fun x(b, a) = a", "let a = 1", "let b = 1", "unit a", "fun a(b) = b", "fun a(x) = x", "let x = 1", "fun x(y) = y")
	const source = "fun f(a, b) = a/b\nlet a = 2\nfun g(b, c) = f(c, b) * a\nlet b = f(a, 5)\nunit c\n"
	expectRecipe(t, source, 0, api.OK)
	expectValue(t, source, "f", qtys{one("7", 0), one("8", 0)}, nums{"1"}, "7/8", "[0]")
	expectValue(t, source, "g", qtys{one("7", 0), one("8", 0)}, nums{"1"}, "16/7", "[0]")
	expectValue(t, source, "b", nil, nums{"1"}, "2/5", "[0]")
	expectRecipe(t, source+"fun h(a) = a", 6, api.ErrName)
	expectRecipe(t, source+"fun h(c) = c", 6, api.ErrName)
}

// Names that are unknown, among them those of later definitions and of the one that
// is made.
func TestUnknownNames(t *testing.T) {
	expectLines(t, api.ErrName,
		"let x = none", "let x = x", "let x = 1 + x", "fun x(a) = b", "fun x(a) = a + b", "fun x(a) = x(a)", "fun x(a) = x", "let x = none(1)", "let x = x(1)", "let x = sq(none)", "let x = mix(1, none)", "let x = mix(none, 1)",
		"let x = 1 [none]", "let x = 1 [x]", "let x = 1 [kg none]", "let x = 1 [none kg]", "let x = 1 [none^2]", "let x = 0 [none]", "let x = -none", "let x = none^2", "let x = 1 - none", "let x = none * 1", "let x = 1 / none", "let x = (none)",
		"let x = if none < 1 then 1 else 1", "let x = if 1 < none then 1 else 1", "let x = if 1 < 2 then none else 1", "let x = if 1 < 2 then 1 else none", "let x = 1 + sq(sq(none))", "let x = a", "let x = sq(a)", "fun x(b) = a",
	)
	expectRecipe(t, "let x = y\nlet y = 1", 1, api.ErrName)
	expectRecipe(t, "let x = 1 [kg]\nunit kg", 1, api.ErrName)
	expectRecipe(t, "fun f(a) = g(a)\nfun g(a) = a", 1, api.ErrName)
	expectRecipe(t, "let y = 1\nlet x = y", 0, api.OK)
}

// Names of the wrong sort.
func TestWrongSorts(t *testing.T) {
	expectLines(t, api.ErrName,
		"let x = kg", "let x = 1 + kg", "let x = sq", "let x = sq + 1", "let x = -mix", "let x = sq(kg)", "let x = sq(sq)", "let x = kg^2", "let x = sq^2", "fun x(a) = a + sq",
		"let x = one(1)", "let x = mass(1)", "let x = kg(1)", "let x = one(1, 2)", "fun x(a) = a(1)", "fun x(a) = a(a)", "fun x(a, b) = b(a)",
		"let x = 1 [one]", "let x = 1 [mass]", "let x = 1 [sq]", "let x = 1 [kg one]", "fun x(a) = 1 [a]", "fun x(a) = 1 [x]", "let x = 0 [sq^0]",
	)
}

func TestArgumentCounts(t *testing.T) {
	expectLines(t, api.ErrName, "let x = sq(1, 2)", "let x = mix(1)", "let x = mix(1, 2, 3)", "let x = four(1, 2, 3)", "let x = four(1, 2, 3, 4, 5)", "let x = four(1)", "let x = sq(1, 2, 3, 4, 5, 6, 7, 8, 9)", "let x = sq(mix(1))", "fun x(a) = mix(a)", "let x = sq(sq(1, 2))", "let x = mix(sq(1, 2))")
	expectLines(t, api.OK, "let x = sq(1)", "let x = mix(1, 2)", "let x = four(1, 2, 3, 4)", "fun x(a) = four(a, a, a, a)")
}

func units(n int) string {
	out := ""
	for i := range n {
		out += fmt.Sprintf("unit u%d\n", i)
	}
	return out
}

func lets(n int) string {
	out := ""
	for i := range n {
		out += fmt.Sprintf("let v%d = %d\n", i, i)
	}
	return out
}

// MaxUnits units, MaxDefs definitions (units included) and MaxParams parameters, and
// one more of each.
func TestFull(t *testing.T) {
	expectRecipe(t, units(4), 0, api.OK)
	expectRecipe(t, units(5), 5, api.ErrFull)
	expectRecipe(t, units(4)+"\nlet x = 1 [u0 u1 u2 u3]\nunit a\n", 7, api.ErrFull)
	expectRecipe(t, lets(32), 0, api.OK)
	expectRecipe(t, lets(33), 33, api.ErrFull)
	expectRecipe(t, "\n\n"+lets(40), 35, api.ErrFull)
	expectRecipe(t, units(4)+lets(28), 0, api.OK)
	expectRecipe(t, units(4)+lets(29), 33, api.ErrFull)
	expectRecipe(t, lets(31)+"unit kg", 0, api.OK)
	expectRecipe(t, lets(32)+"unit kg", 33, api.ErrFull)
	expectRecipe(t, lets(32)+"fun f(a) = a", 33, api.ErrFull)
	expectRecipe(t, lets(31)+"fun f(a) = a\n\n\nlet x = 1\n", 35, api.ErrFull)
	expectRecipe(t, units(4)+strings.Replace(lets(28), "let v27 = 27", "fun f(a, b, c, d) = a*b*c*d*v0", 1), 0, api.OK)
	expectLine(t, "fun x(a, b, c, d) = a", api.OK)
	expectLine(t, "fun x(a, b, c, d, e) = a", api.ErrFull)
	expectLine(t, "fun x(a, b, c, d, e, f, g, h, i, j) = a", api.ErrFull)
}

// In one line ErrForm comes before ErrLong, this before ErrFull, this before
// ErrName, this before ErrType and ErrRange.
func TestOrderInLine(t *testing.T) {
	long := repeated(70, "+1")
	full := lets(32)
	expectRecipe(t, full+"let v0 = kg + 1 +", 33, api.ErrForm)
	expectRecipe(t, full+"let v0 = none"+long+" 1", 33, api.ErrForm)
	expectRecipe(t, full+"let v0 = none"+long, 33, api.ErrLong)
	expectRecipe(t, full+"let x = 1"+long, 33, api.ErrLong)
	expectRecipe(t, full+"let v0 = none", 33, api.ErrFull)
	expectRecipe(t, full+"fun x(x, x) = none", 33, api.ErrFull)
	expectRecipe(t, full+"let x = (", 33, api.ErrForm)
	expectRecipe(t, units(4)+"unit u0", 5, api.ErrFull)
	expectRecipe(t, units(4)+"unit u0 u1", 5, api.ErrForm)
	expectRecipe(t, units(4)+"unit 5", 5, api.ErrForm)
	expectLine(t, "fun x(a, b, c, d, a) = none", api.ErrFull)
	expectLine(t, "fun one(a, b, c, d, one) = mass + 1", api.ErrFull)
	expectLine(t, "fun x(a, b, c, d, e) = a"+long, api.ErrLong)
	expectLine(t, "fun x(a, b, c, d, e) = a +", api.ErrForm)
	expectLine(t, "fun x(a, b, c, d, e) = a + then", api.ErrForm)
	expectLine(t, "let x = mass + one + none", api.ErrName)
	expectLine(t, "let x = none + (mass + one)", api.ErrName)
	expectLine(t, "let one = mass + one", api.ErrName)
	expectLine(t, "fun x(a, a) = mass + one", api.ErrName)
	expectLine(t, "let x = mass + mix(1)", api.ErrName)
	expectLine(t, "let x = (mass + one) * 1 [none]", api.ErrName)
	expectLine(t, "let x = mass + one +", api.ErrForm)
	expectLine(t, "let x = mass + one", api.ErrType)
	expectLine(t, "let abcdefghijklm = none", api.ErrForm)
	expectLine(t, "let x = none + 1234567890123", api.ErrForm)
	// ErrRange needs long types.
	expectRecipe(t, steep()+"fun x(a) = h(g(g(a)))", 5, api.ErrRange)
	expectRecipe(t, steep()+"fun x(a) = h(g(g(none)))", 5, api.ErrName)
	expectRecipe(t, steep()+"fun g(a) = h(g(g(a)))", 5, api.ErrName)
	expectRecipe(t, steep()+"fun x(a) = h(g(g(a)))"+repeated(60, "+0"), 5, api.ErrLong)
	expectRecipe(t, steep()+"fun x(a) = h(g(g(a))))", 5, api.ErrForm)
	expectRecipe(t, steep()+"fun x(a) = h(g(g(a))) * (1 + 1 [kg])", 5, api.ErrType)
}

// The first line that has an error counts, whatever the errors of the later ones
// are.
func TestOrderOfLines(t *testing.T) {
	wrong := []struct {
		line string
		want api.Errno
	}{
		{"let x =", api.ErrForm}, {"let x = 1" + repeated(70, "+1"), api.ErrLong}, {"fun x(a, b, c, d, e) = a", api.ErrFull}, {"let x = none", api.ErrName}, {"let x = mass + one", api.ErrType}, {" ", api.ErrForm},
	}
	at := strings.Count(before, "\n") + 1
	for _, a := range wrong {
		for _, b := range wrong {
			expectRecipe(t, before+a.line+"\n"+b.line, at, a.want)
			expectRecipe(t, before+"\n"+a.line+"\n\n"+b.line+"\n", at+1, a.want)
			expectRecipe(t, before+"let y = 1\n"+a.line+"\n"+b.line+"\n", at+1, a.want)
		}
	}
	// What a wrong line would define is of no use, and a right one is not read again.
	expectRecipe(t, "let x = 1 +\nlet x = 2", 1, api.ErrForm)
	expectRecipe(t, "let x = 1\nlet x = 2\nlet", 2, api.ErrName)
}
