package works_test

import (
	"strings"
	"testing"

	"cracknel/api"
	"cracknel/works"
)

// Rule 1 comes before all others: a line of 4096 bytes is one, a longer one is none.
func TestLengthOfLine(t *testing.T) {
	w := works.New()
	for _, first := range []string{"#", "# ", "x", " ", "post ", "recipe ", "try ", "try post ", "try #", "cost ", "blend "} {
		longest := first + strings.Repeat("a", api.MaxLine-len(first))
		if got := w.Line(longest); got == "! 3\n" {
			t.Errorf("%q and so on, of %d bytes: %q", first, len(longest), got)
		}
		expect(t, w, longest+"a", "! 3\n")
		expect(t, w, longest+"\na", w.Line(longest))
		expect(t, w, longest+"a\nuses", "! 3\n")
		expect(t, w, first+strings.Repeat(" ", api.MaxLine), "! 3\n")
	}
	expect(t, w, strings.Repeat("#", api.MaxLine), "")
	expect(t, w, strings.Repeat("#", api.MaxLine+1), "! 3\n")
	expect(t, w, "try "+strings.Repeat("#", api.MaxLine-4), "")
	expect(t, w, "try "+strings.Repeat("#", api.MaxLine-3), "! 3\n")
	expect(t, w, strings.Repeat(" ", api.MaxLine), "! 2\n")
	expect(t, w, "cost "+strings.Repeat("1 ", 2045)+"1", "")
	expect(t, w, "cost "+strings.Repeat("1 ", 2045)+"12", "! 3\n")
	expect(t, w, strings.Repeat("x", 10_000_000), "! 3\n")
}

// Only what is before the first newline is the line.
func TestNewlines(t *testing.T) {
	w := works.New()
	for line, want := range map[string]string{
		"": "", "\n": "", "\n\n": "", "\nuses": "", "\n! ": "", "#\nuses": "", "uses\n": "uses yes yes yes\n", "uses\nblend": "uses yes yes yes\n",
		"uses\n\n": "uses yes yes yes\n", "uses \n": "! 2\n", "uses\r\n": "! 2\n", "\r\n": "! 2\n", "try uses\nlog": "uses yes yes yes\n", "try \nuses": "! 2\n", "try\nuses": "! 2\n",
		"recipe unit kg\nx": "", "recipe \nunit kg": "! 2\n", "recipe\nunit kg": "! 2\n",
	} {
		expect(t, w, line, want)
	}
	expect(t, w, "scale kg 2", "")
}

func TestLinesWithoutReply(t *testing.T) {
	w := works.New()
	before := view(w)
	do(t, w, "", "#", "# ", "##", "#uses", "# uses", "#\x00\xff", "try #", "try # uses", "try ##")
	if view(w) != before {
		t.Error("a line without a command has changed the works")
	}
}

// Words are separated by single blanks, and by nothing else.
func TestBlanks(t *testing.T) {
	w := prepared(t, "cost 1 2", "row least 1 1 1", "box 0 1 0 1", "sheet 1 1", "cutter plain 0 0", "arc 0 0 1", "station 1", "job 1")
	for _, line := range []string{"uses", "blend", "whole", "tile", "tiling 0", "mean", "plant 1", "shop", "windows", "log", "cost 1 2", "row least 1 1 1", "hole 0 0", "bags 3 1", "post", "post a b", "clear plant", "arm 0 0", "lose 0", "open", "join 0", "type a"} {
		for _, wrong := range []string{" " + line, "  " + line, line + " ", line + "  ", "\t" + line, "\t " + line, " "} {
			expect(t, w, wrong, "! 2\n")
			expect(t, w, "try "+wrong, "! 2\n")
		}
		if strings.Contains(line, " ") {
			expect(t, w, strings.Replace(line, " ", "  ", 1), "! 2\n")
			expect(t, w, strings.Replace(line, " ", "\t", 1), "! 2\n")
		}
	}
	expect(t, w, "post a\tb \t c", "entry 0\n")
	expect(t, w, "log", "entry a\tb \t c\n")
	expect(t, w, "post a  b", "! 2\n")
	expect(t, w, "post  a", "! 2\n")
	expect(t, w, "post a ", "! 2\n")
	expect(t, w, "post ", "! 2\n")
}

func TestUnknownCommands(t *testing.T) {
	w := works.New()
	for _, line := range []string{
		"x", "Uses", "USES", "use", "usess", "uses1", "lines", "help", "!", "! 2", "-", "0", "1", "recipes unit kg", "recip unit kg", "trys uses", "Try uses", "retry uses",
		"x y", "tri uses", "blend#", "\x00", "\xff\xfe", "é", "é uses", ".", "uses;log", "none", "plants 1", "windows1", "sheet2 3 4", "turn 0 0", "most 1 1", "kg", "tiles",
	} {
		expect(t, w, line, "! 2\n")
		expect(t, w, "try "+line, "! 2\n")
	}
}

// fewest returns for each command a line with as few words as it takes, and how many
// more words of the same sort may follow.
func fewest() map[string]string {
	return map[string]string{
		"scale kg 2": "0", "type a": "0", "value a": "0", "cost 1": "any", "row most 1": "any", "part 0 a": "0", "blend": "0", "box 0 1": "2", "whole": "0", "bags 3": "any",
		"sheet 1 1": "0", "hole 0 0": "0", "cutter turn 0 0": "2", "cutter flip 0 0": "2", "cutter both 0 0": "2", "cutter plain 0 0": "2", "tile": "0", "tiling 0": "0",
		"nodes 1": "0", "arc 0 0 1": "0", "mean": "0", "station 1": "0", "loop 0 0 1": "0", "plant 1": "0", "job 1": "any", "window 0 0 1": "0", "shop": "0", "windows": "0",
		"post": "any", "log": "0", "arm 0 1": "0", "restart 0 0": "0", "lose 0": "0", "open": "0", "join 0": "0", "uses": "0", "clear recipe": "0",
	}
}

// settled returns works in which the lines of fewest reply with no error.
func settled(t *testing.T) *works.Works {
	t.Helper()
	return prepared(t, "recipe unit kg", "recipe let a = 1 [kg]", "cost 1", "row least 0 1", "box 0 1", "sheet 1 1", "cutter plain 0 0", "arc 0 0 1", "station 1", "job 1", "lose 0")
}

func TestNumberOfWords(t *testing.T) {
	for line, more := range fewest() {
		w := settled(t)
		w.Line("post x") // so that there is room for another disk
		if reply := w.Clone().Line(line); reply == "! 2\n" {
			t.Errorf("%q is refused", line)
		}
		words := strings.Split(line, " ")
		for n := range len(words) - 1 {
			expect(t, w.Clone(), strings.Join(words[:n+1], " "), "! 2\n")
		}
		for n := 1; n < 6; n++ {
			got := w.Clone().Line(line + strings.Repeat(" 1", n))
			isAllowed := more == "any" || more == "2" && n%2 == 0
			if isAllowed == (got == "! 2\n") {
				t.Errorf("%q and %d words more: %q", line, n, got)
			}
		}
	}
	for _, line := range []string{"recipe", "try", "recipe ", "try ", "clear", "clear recipe recipe", "scale", "type", "value"} {
		expect(t, works.New(), line, "! 2\n")
	}
}

// numberPlaces returns lines with a % for each number, one of them to be replaced.
func numberPlaces() []string {
	return []string{
		"part % a", "box % 1", "box 0 %", "box 0 1 % 2", "box 0 1 0 %", "bags % 1", "bags 3 %", "bags 3 1 %", "sheet % 1", "sheet 1 %", "hole % 0", "hole 0 %",
		"cutter plain % 0", "cutter turn 0 %", "cutter flip 0 0 % 1", "cutter both 0 0 1 %", "nodes %", "arc % 0 1", "arc 0 % 1", "arc 0 0 %", "station %",
		"loop % 0 1", "loop 0 % 1", "loop 0 0 %", "plant %", "job %", "job 1 %", "window % 0 1", "window 0 % 1", "window 0 0 %", "arm % 1", "arm 0 %", "restart % 1", "restart 0 %", "lose %", "join %",
	}
}

// Numbers have 1 to 12 digits; what is malformed is refused before anything else,
// what is well formed only for what it says.
func TestNumbers(t *testing.T) {
	w := settled(t)
	w.Line("post x")
	for _, line := range numberPlaces() {
		for _, wrong := range []string{
			"-0", "00", "01", "-01", "+1", "1.0", "1/2", "2/1", "1/1", "0/1", "-", "--1", "1-", "x", "1x", "0x1", "1_0", "1e3", "1,2", "1000000000000", "-1000000000000", "0000000000000",
			"9223372036854775808", "-9223372036854775809", "99999999999999999999999999", "¹", "١", "\x00", "1\t", "NUM", "yes", "a",
		} {
			expect(t, w, strings.Replace(line, "%", wrong, 1), "! 2\n")
		}
		for _, right := range []string{"0", "1", "-1", "12", "-12", "999999999999", "-999999999999", "100000000000"} {
			if got := w.Clone().Line(strings.Replace(line, "%", right, 1)); got == "! 2\n" {
				t.Errorf("%s with %s is malformed", line, right)
			}
		}
	}
}

// Nums are those of chapter 1.
func TestNums(t *testing.T) {
	w := settled(t)
	for _, line := range []string{"scale kg %", "scale none %", "cost %", "cost 1 %", "row most %", "row least 1 %", "row equal 1 % 2", "row equal 1 1 %", "tiling %"} {
		for _, wrong := range []string{
			"-0", "00", "01", "+1", "1.0", "2/1", "1/1", "0/2", "2/4", "1/-2", "1/0", "1/", "/2", "1/02", "1//2", "-", "x", "1/2/3", strings.Repeat("1", 4001), "1/" + strings.Repeat("3", 4001), "¹",
		} {
			if len(line)+len(wrong) < api.MaxLine {
				expect(t, w, strings.Replace(line, "%", wrong, 1), "! 2\n")
			}
		}
		for _, right := range []string{"0", "1", "-1", "1/2", "-7/3", "1000000000000", strings.Repeat("9", 40), strings.Repeat("9", 4000), "1/" + strings.Repeat("9", 4000), "-" + strings.Repeat("9", 2000) + "/1" + strings.Repeat("0", 2000)} {
			got := w.Clone().Line(strings.Replace(line, "%", right, 1))
			isRank := line == "tiling %" && strings.Contains(right, "/") // no integer: tile.At says so
			if (got == "! 2\n") != isRank {
				t.Errorf("%s with %.20s: %q", line, right, got)
			}
		}
	}
	for _, line := range []string{"cost " + strings.Repeat("1", 4001), "row most " + strings.Repeat("1", 4001), "tiling " + strings.Repeat("1", 4001)} {
		expect(t, w, line, "! 2\n")
	}
}

// Names may be any words: whether there are such names is another question.
func TestNames(t *testing.T) {
	w := settled(t)
	for _, name := range []string{"A", "1", "-0", "kg1", "let", "unit", "é", "a\tb", "[", strings.Repeat("a", 4000), "\x00"} {
		expect(t, w, "scale "+name+" 1", "! 13\n")
		expect(t, w, "type "+name, "! 6\n")
		expect(t, w, "value "+name, "! 6\n")
		expect(t, w, "part 0 "+name, "! 6\n")
	}
}

// Words that must be one of a few.
func TestChoices(t *testing.T) {
	w := settled(t)
	for range api.MaxLimits {
		w.Line("row most 1 1")
	}
	for range api.MaxCutters {
		w.Line("cutter plain 0 0")
	}
	for _, word := range []string{"x", "Most", "mos", "moste", "1", "3", "=", "turn", "recipe", "both"} {
		expect(t, w, "row "+word+" 1 1", "! 2\n")
	}
	for _, word := range []string{"x", "Turn", "turns", "tur", "0", "most", "none", "recipe"} {
		expect(t, w, "cutter "+word+" 0 0", "! 2\n")
	}
	for _, word := range []string{"x", "Recipe", "recipes", "scales", "costs", "all", "log", "cutters", "job", "tile", "everything", "disks", "windows"} {
		before := view(w)
		expect(t, w, "clear "+word, "! 2\n")
		if view(w) != before {
			t.Errorf("clear %s has changed the works", word)
		}
	}
	expect(t, w, "row most 1 1", "! 8\n")
	expect(t, w, "row most 01 1", "! 2\n")
	expect(t, w, "cutter plain 0 0", "! 8\n")
	expect(t, w, "cutter plain 0 00", "! 2\n")
	expect(t, w, "cutter plain 0", "! 2\n")
}
