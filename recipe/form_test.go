package recipe_test

import (
	"fmt"
	"strings"
	"testing"

	"cracknel/api"
	"cracknel/recipe"
)

func TestEmptyRecipes(t *testing.T) {
	for _, source := range []string{"", "\n", "\n\n\n", repeated(api.MaxSource, "\n")} {
		expectRecipe(t, source, 0, api.OK)
		expectTypeError(t, source, "x", api.ErrNone)
		expectEvalError(t, source, "x", nil, nil, api.ErrNone)
	}
	for _, x := range []struct {
		source string
		line   int
	}{{" ", 1}, {"    ", 1}, {" \n", 1}, {"\n ", 2}, {"\n\n  \n\n", 3}, {"unit kg\n ", 2}, {"unit kg\n \nlet", 2}, {repeated(api.MaxSource, " "), 1}, {repeated(api.MaxSource-1, "\n") + " ", api.MaxSource}} {
		expectRecipe(t, x.source, x.line, api.ErrForm)
	}
}

// Empty lines are skipped and counted, and the last line may lack its newline.
func TestLines(t *testing.T) {
	for _, source := range []string{
		"let x = 7", "let x = 7\n", "\nlet x = 7", "\n\n\nlet x = 7\n\n\n", "unit kg\nlet x = 7", "unit kg\n\n\nlet x = 7\n", " let x = 7 ", "let x = 7  \n",
	} {
		expectRecipe(t, source, 0, api.OK)
		q, e := recipe.Eval(source, "x", nil, make(nums, 0))
		if strings.HasPrefix(source, "unit") {
			q, e = recipe.Eval(source, "x", nil, nums{"1"})
		}
		if e != api.OK || q.Value != "7" {
			t.Errorf("Eval(%q) = %v, error %d", source, q, e)
		}
	}
	for _, x := range []struct {
		source string
		line   int
	}{{"let", 1}, {"let\n", 1}, {"\nlet", 2}, {"\n\n\nlet\n\n", 4}, {"unit kg\nlet\nlet x = 1", 2}, {"unit kg\n\nunit m\n\nlet", 5}, {"let x = 1\nlet y = 2\nlet", 3}} {
		expectRecipe(t, x.source, x.line, api.ErrForm)
	}
	// A carriage return is no newline, and no blank.
	expectRecipe(t, "let x = 1\r\nlet y = 2\r\n", 1, api.ErrForm)
}

// MaxSource bytes, and one more: this comes first, and has no line.
func TestLongRecipes(t *testing.T) {
	for _, begin := range []string{"let x = 7\n", "let x = 7\nlet y =\n", "", "let x = 7 \n"} {
		most := begin + repeated(api.MaxSource-len(begin), "\n")
		line, want := 0, api.OK
		if strings.Contains(begin, "y") {
			line, want = 2, api.ErrForm
		}
		expectRecipe(t, most, line, want)
		expectRecipe(t, most+"\n", 0, api.ErrLong)
		expectRecipe(t, most+"\n\n\n", 0, api.ErrLong)
		expectRecipe(t, "let\n"+most, 0, api.ErrLong)
	}
	blanks := "let" + repeated(api.MaxSource-8, " ") + "x = 7"
	expectRecipe(t, blanks, 0, api.OK)
	expectRecipe(t, " "+blanks, 0, api.ErrLong)
	expectRecipe(t, repeated(1<<20, "("), 0, api.ErrLong)
}

func TestNames(t *testing.T) {
	expectLines(t, api.OK,
		"unit s", "let x = 1", "let abcdefghijkl = 1", "let a12345678901 = 1", "let z9 = 1", "let a0b0c0 = 1", "unit abcdefghijkl", "fun abcdefghijkl(mnopqrstuvwx) = mnopqrstuvwx",
		"let lets = 1", "let ifs = 1", "let if2 = 1", "let then1 = 1", "let elsee = 1", "let units = 1", "let funs = 1", "let fu = 1", "let e = 1", "fun x(le) = le", "fun x(unit1) = unit1",
	)
	expectLines(t, api.ErrForm,
		"let abcdefghijklm = 1", "unit abcdefghijklm", "fun abcdefghijklm(a) = a", "fun x(abcdefghijklm) = 1", "let x = abcdefghijklm", "let x = abcdefghijklm(1)", "let x = 1 [abcdefghijklm]",
		"let "+repeated(5000, "a")+" = 1", "let 9a = 1", "let 9 = 1", "unit 9", "unit 9a", "let A = 1", "let aB = 1", "let a_b = 1", "let _a = 1", "let a.b = 1", "let a-b = 1", "let a b = 1", "let é = 1", "let = 1", "unit",
	)
}

// A keyword where a name is expected.
func TestKeywords(t *testing.T) {
	for _, word := range []string{"unit", "let", "fun", "if", "then", "else"} {
		expectLines(t, api.ErrForm,
			"unit "+word, "let "+word+" = 1", "fun "+word+"(a) = a", "fun x("+word+") = 1", "fun x(a, "+word+") = 1", "let x = "+word, "let x = "+word+" + 1", "let x = 1 + "+word, "let x = -"+word,
			"let x = "+word+"(1)", "let x = 1 ["+word+"]", "let x = 1 [kg "+word+"]", "let x = 1 [kg^2 "+word+"^2]", "let x = ("+word+")", "let x = "+word+"^2", "let x = sq("+word+")", word, word+" = 1", word+" "+word,
		)
	}
	expectLines(t, api.ErrForm, "units s", "Let x = 1", "x = 1", "kg", "1", "= 1", "let let x = 1", "unit unit s", "unitkg", "letx = 1", "funx(a) = a", "let x = 1 let y = 2", "unit s unit g", "unit s = 1", "unit s, g", "unit s g")
}

func TestNumbers(t *testing.T) {
	for _, x := range []struct {
		text string
		want api.Num
	}{
		{"0", "0"}, {"1", "1"}, {"9", "9"}, {"10", "10"}, {"100", "100"}, {"123456789012", "123456789012"}, {"999999999999", "999999999999"},
		{"0.0", "0"}, {"0.5", "1/2"}, {"0.25", "1/4"}, {"0.250", "1/4"}, {"1.0", "1"}, {"1.50", "3/2"}, {"10.01", "1001/100"}, {"90.09", "9009/100"}, {"0.001", "1/1000"},
		{"0.00000000001", "1/100000000000"}, {"0.00000000000", "0"}, {"12345678901.2", "61728394506/5"}, {"99999999999.9", "999999999999/10"}, {"9.99999999999", "999999999999/100000000000"}, {"123456.789012", "30864197253/250000"},
	} {
		expectLine(t, "let x = "+x.text, api.OK)
		expectValue(t, "let x = "+x.text, "x", nil, nil, x.want, "[]")
	}
	for _, text := range []string{
		"1234567890123", "0.123456789012", "0.000000000000", "1234567890.123", "123456789012.3", "123456789012.0", "1.234567890123", "00", "01", "007", "00.5", "01.5", "0.5.5", "1..5", "1.", "0.", ".5", ".", ".0", "1.5.", "0.5.",
		"1 .5", "1. 5", "1 5", "1 .", "1e5", "1x", "0x1", "0b", "1_000", "1'000", "+1", "$1", "½", "1,5", repeated(5000, "1"), "0." + repeated(5000, "0"), "12.", "1.a", "1a.5", "0a", "1.5a", "1.5kg",
	} {
		expectLine(t, "let x = "+text, api.ErrForm)
	}
}

// Blanks may stand between any two tokens, and must stand between two words.
func TestBlanks(t *testing.T) {
	for _, line := range []string{
		"unit s", "let x = 1", "let x = 0.5 + one * ( mass / 2 [ kg ^ 2 m ^ - 3 ] ) ^ - 1 * 1 [ m ^ - 3 ] * 0", "fun x ( a , b , c ) = a ^ 2 + 0 * b / c - sq ( a )",
		"let x = if - 1 < - one then - ( - 2 ) else mix ( 3 , 4 )", "fun x ( a ) = if a < 0 then if a < 0 then a else 0 else a",
	} {
		tokens := strings.Fields(line)
		expectLine(t, line, api.OK)
		expectLine(t, spaced(tokens, func() int { return 0 }), api.OK)
		expectLine(t, spaced(tokens, func() int { return 3 }), api.OK)
		for i := range tokens {
			// Without any blank in one place.
			glued := strings.Join(tokens[:i+1], " ") + strings.Join(tokens[i+1:min(i+2, len(tokens))], "") + " " + strings.Join(tokens[min(i+2, len(tokens)):], " ")
			if i+1 < len(tokens) && isWord(tokens[i]) && isWord(tokens[i+1]) {
				if _, e := recipe.Check(before + glued); e != api.ErrForm {
					t.Errorf("Check(.. %q): error %d", glued, e)
				}
			} else {
				expectLine(t, glued, api.OK)
			}
		}
	}
	expectLines(t, api.ErrForm,
		"let x = 1 [kg^2m]", "let x = 1 [kg^2 3]", "let x = if 1<2then 3 else 4", "let x = if 1<2 then 3else 4", "let x = if1<2 then 3 else 4", "let x = if 1<2 then3 else 4", "let x = if 1<2 then 3 else4",
		"let x =\t1", "\tlet x = 1", "let x = 1\t", "let\tx = 1", "let x = 1\v", "let x = 1\u00a0", "let x = 1\r", "unit\ts",
	)
	expectLines(t, api.OK, "let x=if(1)<(2)then(3)else(4)", "let x=1[kg]*1[m]", "fun x(a)=if a<0 then 1 else 2", "let x=1[kg^2 m]", "let x=1[kg m^2]", "let x=sq(2)/sq(3)", "  unit   s  ")
}

// Bytes that belong to no token.
func TestOtherBytes(t *testing.T) {
	for c := range 256 {
		if strings.IndexByte("abcdefghijklmnopqrstuvwxyz0123456789+-*/()[]^,<= \n", byte(c)) >= 0 {
			continue
		}
		other := string([]byte{byte(c)})
		for _, line := range []string{other, "let x = 1" + other, other + "let x = 1", "let x = 1 " + other + " 1", "let x " + other + " 1", "unit s" + other, "let x" + other + "y = 1", "let x = y" + other} {
			if at, e := recipe.Check("let y = 1\n" + line); at != 2 || e != api.ErrForm {
				t.Errorf("Check(%q) = %d, error %d", line, at, e)
			}
		}
	}
}

func TestGrammar(t *testing.T) {
	expectLines(t, api.OK,
		"let x = (((1)))", "let x = - - -1", "let x = -(-1)", "let x = 1 - -1", "let x = 1 * -1", "let x = 1 / - - 1", "let x = -one^2", "let x = (-one)^2", "let x = one^-2", "let x = (one^2)^3", "let x = 2^0", "let x = 2^9", "let x = 2^-9", "let x = 2^-0",
		"let x = sq(1)^2", "let x = sq(sq(sq(1)))", "let x = mix(sq(1), mix(2, 3))", "let x = four(1, 2, 3, 4)", "let x = sq(if 1 < 2 then 3 else 4)", "let x = mix(if 1 < 2 then 3 else 4, -5)",
		"let x = if 1 < 2 then 3 else 4 + 5", "let x = if 1 + 2 < 3 * 4 then 5 - 6 else 7 / 8", "let x = 1 + (if 1 < 2 then 3 else 4)", "let x = (if 1 < 2 then 3 else 4) + 1", "let x = (if 1 < 2 then 3 else 4)^2", "let x = -(if 1 < 2 then 3 else 4)",
		"let x = if if 1 < 2 then 3 else 4 < 5 then 6 else 7", "let x = if 1 < if 2 < 3 then 4 else 5 then 6 else 7", "let x = if 1 < 2 then if 3 < 4 then 5 else 6 else 7", "let x = if 1 < 2 then 3 else if 4 < 5 then 6 else 7",
		"let x = 1 [kg]", "let x = 1 [kg m]", "let x = 1 [kg^1 m^-1 kg^0]", "let x = 1 [kg]^2", "let x = -1 [kg]^2", "let x = 0 [kg]", "let x = 0.5 [kg^9 m^-9]", "let x = 1 [kg] * 2 [m] / 3 [kg^-0]",
		"fun x(a) = a", "fun x(a, b) = a", "fun x(a, b, c, d) = d",
	)
	expectLines(t, api.ErrForm,
		"let x", "let x =", "let x 1", "let x = =1", "let x == 1", "let = x", "let x = ()", "let x = (1", "let x = 1)", "let x = ((1)", "let x = )1(", "let x = [1]", "let x = 1 +", "let x = + 1", "let x = 1 + + 1", "let x = 1 - * 1", "let x = * 1", "let x = 1 2", "let x = 1 one", "let x = one one", "let x = one 1",
		"let x = 1 /", "let x = -", "let x = 1 -", "let x = - - ", "let x = 1,2", "let x = 1 < 2", "let x = (1 < 2)", "let x = 1 = 1", "let x = 2 (3)", "let x = (2) (3)", "let x = (sq)(1)", "let x = sq(1)(2)",
		"let x = 2^", "let x = ^2", "let x = 2^10", "let x = 2^-10", "let x = 2^12", "let x = 2^1.0", "let x = 2^0.5", "let x = 2^9.0", "let x = 2^one", "let x = 2^(2)", "let x = 2^--2", "let x = 2^+2", "let x = 2^2^2", "let x = one^2^-2", "let x = 2^-", "let x = -^2", "let x = 2^2 [kg]", "let x = 2^123456789012",
		"let x = sq()", "let x = sq(1,)", "let x = sq(,1)", "let x = mix(1 2)", "let x = mix(1,,2)", "let x = mix(1,2", "let x = mix 1,2)", "let x = sq 1", "let x = sq[1]", "let x = mix(1;2)",
		"let x = if", "let x = if 1", "let x = if 1 < 2", "let x = if 1 < 2 then", "let x = if 1 < 2 then 3", "let x = if 1 < 2 then 3 else", "let x = if 1 then 3 else 4", "let x = if 1 < 2 3 else 4", "let x = if 1 < 2 else 4", "let x = if < 2 then 3 else 4", "let x = if 1 < then 3 else 4", "let x = if 1 < 2 then else 4",
		"let x = if 1 = 2 then 3 else 4", "let x = if 1 < 2 < 3 then 4 else 5", "let x = if 1 < 2 then 3 else 4 else 5", "let x = if 1 < 2 then 3 then 4 else 5", "let x = 1 + if 1 < 2 then 3 else 4", "let x = -if 1 < 2 then 3 else 4", "let x = 2 * if 1 < 2 then 3 else 4", "let x = then", "let x = 1 else 2",
		"let x = 1 []", "let x = 1 [", "let x = 1 [kg", "let x = 1 kg]", "let x = 1 ]", "let x = [kg]", "let x = 1 [1]", "let x = 1 [kg, m]", "let x = 1 [kg * m]", "let x = 1 [kg / m]", "let x = 1 [kg^]", "let x = 1 [kg^10]", "let x = 1 [kg^-10]", "let x = 1 [kg^m]", "let x = 1 [kg^1.0]", "let x = 1 [^2]", "let x = 1 [kg^2^2]", "let x = 1 [(kg)]", "let x = 1 [-kg]", "let x = 1 [kg] [m]", "let x = 1 [kg][m]", "let x = 1 [[kg]]",
		"let x = one [kg]", "let x = (1) [kg]", "let x = sq(1) [kg]", "fun x(a) = a [kg]", "let x = 1 [kg 2]", "let x = 1 [kg^--2]",
		"fun x() = 1", "fun x = 1", "fun x a = 1", "fun x(a = 1", "fun x a) = 1", "fun x(a,) = 1", "fun x(,a) = 1", "fun x(a b) = 1", "fun x(1) = 1", "fun x((a)) = 1", "fun x(a) 1", "fun x(a)", "fun x(a) =", "fun (a) = 1", "fun x(a)(b) = 1", "fun x[a] = 1", "let x(a) = a", "fun x(a, b) = ", "unit x = 1", "unit x(a)", "unit [x]", "unit", "let", "fun",
	)
}

// Sums and terms associate to the left, terms bind more tightly than sums, factors
// more tightly than terms, and a power more tightly than unary minus.
func TestBinding(t *testing.T) {
	for _, x := range []struct {
		text string
		want api.Num
	}{
		{"7 - 2 - 1", "4"}, {"7 - (2 - 1)", "6"}, {"7 - 2 + 1", "6"}, {"7 + 2 - 1 - 3 + 5", "10"}, {"12 / 2 / 3", "2"}, {"12 / (2 / 3)", "18"}, {"12 / 2 * 3", "18"}, {"12 * 2 / 3", "8"}, {"12 / (2 * 3)", "2"},
		{"1 + 2 * 3", "7"}, {"(1 + 2) * 3", "9"}, {"2 * 3 + 1", "7"}, {"7 - 6 / 3", "5"}, {"1 + 2 * 3 - 8 / 4 * 5", "-3"}, {"2 * 3^2", "18"}, {"(2 * 3)^2", "36"}, {"3^2 * 2", "18"}, {"18 / 3^2", "2"}, {"2^2 + 3^2", "13"},
		{"-2^2", "-4"}, {"(-2)^2", "4"}, {"-2^-2", "-1/4"}, {"(-2)^-3", "-1/8"}, {"--2^2", "4"}, {"-2 * 3", "-6"}, {"2 * -3", "-6"}, {"2 * -3^2", "-18"}, {"-2 + 3", "1"}, {"-(2 + 3)", "-5"}, {"2 - -3", "5"}, {"2 - - -3", "-1"}, {"-6 / -3", "2"}, {"- - - -5", "5"},
		{"if 1 < 2 then 3 else 4 + 5", "3"}, {"if 2 < 1 then 3 else 4 + 5", "9"}, {"(if 1 < 2 then 3 else 4) + 5", "8"}, {"if 1 + 1 < 1 * 3 then 10 - 2 - 3 else 7", "5"}, {"if 3 - 1 < 2 then 1 else 2", "2"},
		{"if if 1 < 2 then 1 else 3 < 2 then 5 else 6", "5"}, {"if 1 < if 1 < 2 then 0 else 3 then 5 else 6", "6"}, {"if 1 < 2 then if 2 < 1 then 3 else 4 else 5", "4"}, {"if 2 < 1 then 3 else if 1 < 2 then 4 else 5", "4"}, {"if 2 < 1 then if 1 < 2 then 3 else 4 else 5", "5"},
		{"2^0", "1"}, {"0^0", "1"}, {"0^9", "0"}, {"2^9", "512"}, {"2^-9", "1/512"}, {"(2^9)^9", "2417851639229258349412352"}, {"0.5^3", "1/8"}, {"(2/3)^-2", "9/4"}, {"1^-9", "1"}, {"(-1)^9", "-1"}, {"(-1)^-8", "1"}, {"2^-0", "1"},
	} {
		expectValue(t, "let x = "+x.text, "x", nil, nil, x.want, "[]")
	}
}

// MaxTokens tokens, and one more: what is malformed comes first.
func TestTokenCount(t *testing.T) {
	sum := func(n int) string { return "let x = " + repeated(n, "1+") + "1" } // 4 + 2n tokens
	expectLine(t, sum(62), api.OK)
	expectLine(t, sum(63), api.ErrLong)
	expectLine(t, "let x = -"+repeated(62, "1+")+"1", api.ErrLong)
	expectLine(t, "let x = -"+repeated(61, "1+")+"1", api.OK)
	expectLine(t, "let x = (((("+repeated(58, "1+")+"1))))", api.OK)
	expectLine(t, "let x = (((((("+repeated(57, "1+")+"1))))))", api.ErrLong)
	expectLine(t, "let x = "+repeated(62, "(")+"1"+repeated(62, ")"), api.OK)
	expectLine(t, "let x = "+repeated(63, "(")+"1"+repeated(63, ")"), api.ErrLong)
	expectLine(t, "let x = "+repeated(124, "-")+"1", api.OK)
	expectLine(t, "let x = "+repeated(125, "-")+"1", api.ErrLong)
	expectLine(t, "let x = "+repeated(4000, "-")+"1", api.ErrLong)
	expectLine(t, "let x = "+repeated(3000, "(")+"1"+repeated(3000, ")"), api.ErrLong)
	expectLine(t, "let x = "+repeated(300, "if 1 < 2 then ")+"1"+repeated(300, " else 1"), api.ErrLong)
	expectLine(t, "let x = 1 ["+repeated(61, "kg m ")+"]", api.OK)
	expectLine(t, "let x = 1 ["+repeated(61, "kg m ")+"kg]", api.ErrLong)
	expectLine(t, "let x = 1 ["+repeated(30, "kg^2 ")+"]", api.OK)
	expectLine(t, "fun x(a"+repeated(70, ",a")+") = a", api.ErrLong)
	for _, wrong := range []string{"+", " 1", ")", " kg", "^10", "?", " [", "(", "<1", " then"} {
		expectLine(t, sum(63)+wrong, api.ErrForm)
		expectLine(t, sum(1000)+wrong, api.ErrForm)
	}
	expectLine(t, "let x = "+repeated(3000, "(")+"1"+repeated(2999, ")"), api.ErrForm)
	expectLine(t, "let x = "+repeated(7000, "("), api.ErrForm)
	expectLine(t, repeated(2000, "if "), api.ErrForm)
	// Before what is too many, and before names and types.
	expectLine(t, sum(62)+"^9", api.ErrLong)
	expectLine(t, "let one = "+repeated(63, "1+")+"1", api.ErrLong)
	expectLine(t, "let x = "+repeated(63, "none+")+"1", api.ErrLong)
	expectLine(t, "let x = "+repeated(63, "mass+")+"1", api.ErrLong)
	expectLine(t, "let x = "+repeated(61, "mass+")+"1", api.ErrType)
}

// Recipes that are written with other blanks, brackets and empty lines are the
// same.
func TestSpelling(t *testing.T) {
	const plain = "unit kg\nlet x=2[kg^2]*3\nfun f(a,b)=if a<0 then a^-2*b else(a+0)^-2*b"
	for _, other := range []string{
		"\n\nunit  kg \n let x = 2 [ kg ^ 2 ] * 3\n\nfun f ( a , b ) = if a < 0 then a ^ - 2 * b else ( a + 0 ) ^ - 2 * b\n",
		"unit kg\nlet x = ((2 [kg kg]) * (3))\nfun f(a, b) = (if (a) < (0) then (((a)^-2) * (b)) else ((((a) + (0))^-2) * (b)))\n\n",
	} {
		for _, name := range []string{"x", "f"} {
			a, e := recipe.Type(plain, name)
			b, f := recipe.Type(other, name)
			if e != api.OK || f != api.OK || fmt.Sprint(a) != fmt.Sprint(b) {
				t.Errorf("%v, error %d, and %v, error %d", a, e, b, f)
			}
		}
		for _, source := range []string{plain, other} {
			expectValue(t, source, "x", nil, nums{"10"}, "600", "[2]")
			expectValue(t, source, "f", qtys{one("-3", 1), one("2", 7)}, nums{"10"}, "2/9", "[5]")
		}
	}
}
