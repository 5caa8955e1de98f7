package works_test

import (
	"fmt"
	"math/big"
	"math/rand"
	"regexp"
	"strconv"
	"strings"
	"testing"

	"cracknel/api"
	"cracknel/blend"
	"cracknel/line"
	"cracknel/mirror"
	"cracknel/recipe"
	"cracknel/shop"
	"cracknel/tile"
	"cracknel/whole"
	"cracknel/works"
)

// A model is works as the chapter's table describes them, written a second time:
// the forms of lines are regular expressions, and a copy is made by doing all lines
// again.
type model struct {
	done     []string
	source   string
	units    []string
	scale    []api.Num
	p        api.Program
	low      []int
	high     []int
	sheet    *api.Sheet
	cutters  []api.Cutter
	nodes    int
	arcs     []api.Arc
	stations []int
	loops    []api.Loop
	table    [][]int
	release  []int
	due      []int
	disks    []*mirror.Disk
	log      *mirror.Mirror
	isOpen   bool
}

func newModel() *model {
	m := &model{nodes: 1, disks: []*mirror.Disk{mirror.NewDisk(), mirror.NewDisk(), mirror.NewDisk()}}
	if mirror.Format(m.disks, 0) != api.OK {
		panic("Format")
	}
	m.openLog()
	return m
}

func (m *model) openLog() api.Errno {
	log, e := mirror.Open(m.disks)
	m.isOpen = e == api.OK
	if m.isOpen {
		m.log = log
	}
	return e
}

func (m *model) line(s string) string {
	reply := m.reply(s)
	m.done = append(m.done, s)
	return reply
}

func (m *model) reply(s string) string {
	if len(s) > 4096 {
		return "! 3\n"
	}
	if s == "" || strings.HasPrefix(s, "#") {
		return ""
	}
	if rest, ok := strings.CutPrefix(s, "try "); ok {
		if rest == "" || rest == "try" || strings.HasPrefix(rest, "try ") {
			return "! 2\n"
		}
		c := newModel()
		for _, line := range m.done {
			c.line(line)
		}
		return c.reply(rest)
	}
	first, _, _ := strings.Cut(s, " ")
	for form, do := range m.commands() {
		if !strings.HasPrefix(form, first) {
			continue
		}
		if a := expression(form).FindStringSubmatch(s); a != nil {
			out, e := do(a[1:])
			if e != api.OK {
				return fmt.Sprintf("! %d\n", int(e))
			}
			return out
		}
	}
	return "! 2\n"
}

const (
	aName   = "([^ ]+)"
	anInt   = "(0|-?[1-9][0-9]{0,11})"
	ints    = "((?: (?:0|-?[1-9][0-9]{0,11}))*)"
	twoInts = "((?: (?:0|-?[1-9][0-9]{0,11}) (?:0|-?[1-9][0-9]{0,11}))+)"
	aNum    = "(-?[0-9]+(?:/[0-9]+)?)"
	someNum = "((?: -?[0-9]+(?:/[0-9]+)?)*)"
)

var expressions = map[string]*regexp.Regexp{}

// expression compiles each form once.
func expression(form string) *regexp.Regexp {
	if expressions[form] == nil {
		expressions[form] = regexp.MustCompile("^(?:" + form + ")$")
	}
	return expressions[form]
}

type doing = func(a []string) (string, api.Errno)

// commands returns what is done by lines of each form. No line has two forms.
func (m *model) commands() map[string]doing {
	out := map[string]doing{}
	for _, part := range []map[string]doing{m.ofRecipe(), m.ofProgram(), m.ofSheet(), m.ofGraph(), m.ofJobs(), m.ofLog()} {
		for form, do := range part {
			out[form] = do
		}
	}
	return out
}

// isNum tells by math/big whether a Num is in lowest terms.
func isNum(word string) bool {
	x, ok := new(big.Rat).SetString(word)
	return ok && x.RatString() == word
}

func allNums(words string) ([]api.Num, bool) {
	var out []api.Num
	for _, word := range strings.Fields(words) {
		if !isNum(word) {
			return nil, false
		}
		out = append(out, api.Num(word))
	}
	return out, true
}

func integers(words ...string) []int {
	out := []int{}
	for _, word := range strings.Fields(strings.Join(words, " ")) {
		n, err := strconv.Atoi(word)
		if err != nil {
			panic(err)
		}
		out = append(out, n)
	}
	return out
}

// plain formats a list without its brackets.
func plain(first string, list any) string {
	return strings.TrimRight(first+" "+strings.Trim(fmt.Sprint(list), "[]"), " ") + "\n"
}

func ok(out string) (string, api.Errno) { return out, api.OK }

func refuse(e api.Errno) (string, api.Errno) { return "", e }

func (m *model) evaluate(name string) (api.Qty, api.Errno) {
	return recipe.Eval(m.source, name, nil, m.scale)
}

func (m *model) ofRecipe() map[string]doing {
	return map[string]doing{
		"recipe (.+)": func(a []string) (string, api.Errno) {
			if _, e := recipe.Check(m.source + a[0] + "\n"); e != api.OK {
				return refuse(e)
			}
			m.source += a[0] + "\n"
			if unit := expression(" *unit +([a-z0-9]+) *").FindStringSubmatch(a[0]); unit != nil {
				m.units = append(m.units, unit[1])
				m.scale = append(m.scale, "1")
			}
			return ok("")
		},
		"scale " + aName + " " + aNum: func(a []string) (string, api.Errno) {
			if !isNum(a[1]) {
				return refuse(api.ErrForm)
			}
			for i, unit := range m.units {
				if unit != a[0] {
					continue
				}
				x, _ := new(big.Rat).SetString(a[1])
				if x.Sign() <= 0 || len(x.Num().String()) > 40 || len(x.Denom().String()) > 40 {
					return refuse(api.ErrArg)
				}
				m.scale[i] = api.Num(a[1])
				return ok("")
			}
			return refuse(api.ErrName)
		},
		"type " + aName: func(a []string) (string, api.Errno) {
			s, e := recipe.Type(m.source, a[0])
			if e != api.OK {
				return refuse(e)
			}
			out := fmt.Sprintf("params %d\n", s.Params)
			for _, row := range s.Free {
				out += plain("free", row)
			}
			for i, unit := range m.units {
				out += plain(unit, s.Fixed[i])
			}
			return ok(out)
		},
		"value " + aName: func(a []string) (string, api.Errno) {
			q, e := m.evaluate(a[0])
			if e != api.OK {
				return refuse(e)
			}
			out := "value " + string(q.Value) + "\n"
			for i, unit := range m.units {
				if q.Dim[i] != 0 {
					out += fmt.Sprintf("%s %d\n", unit, q.Dim[i])
				}
			}
			return ok(out)
		},
		"clear recipe": func([]string) (string, api.Errno) {
			m.source, m.units, m.scale = "", nil, nil
			return ok("")
		},
	}
}

func (m *model) ofProgram() map[string]doing {
	return map[string]doing{
		"cost( .+)": func(a []string) (string, api.Errno) {
			list, isForm := allNums(a[0])
			if !isForm || !expression(someNum).MatchString(a[0]) {
				return refuse(api.ErrForm)
			}
			m.p.Cost = list
			return ok("")
		},
		"row (most|least|equal) " + aNum + someNum: func(a []string) (string, api.Errno) {
			coef, isForm := allNums(a[2])
			if !isForm || !isNum(a[1]) {
				return refuse(api.ErrForm)
			}
			if len(m.p.Rows) >= 48 {
				return refuse(api.ErrFull)
			}
			kind := map[string]int{"most": api.AtMost, "least": api.AtLeast, "equal": api.Equal}[a[0]]
			m.p.Rows = append(m.p.Rows, api.Row{Coef: coef, Kind: kind, Right: api.Num(a[1])})
			return ok("")
		},
		"part " + anInt + " " + aName: func(a []string) (string, api.Errno) {
			i := integers(a[0])[0]
			if i < 0 || i >= len(m.p.Cost) {
				return refuse(api.ErrArg)
			}
			q, e := m.evaluate(a[1])
			if e == api.OK {
				m.p.Cost[i] = q.Value
			}
			return "", e
		},
		"blend": func([]string) (string, api.Errno) {
			answer, e := blend.Solve(m.p)
			if e != api.OK {
				return refuse(e)
			}
			return ok(map[int]string{
				api.Optimal:    plain("optimal", answer.Value) + plain("x", answer.X),
				api.Infeasible: "infeasible\n", api.Unbounded: "unbounded\n",
			}[answer.Kind])
		},
		"box" + twoInts: func(a []string) (string, api.Errno) {
			m.low, m.high = nil, nil
			for i, n := range integers(a[0]) {
				if i%2 == 0 {
					m.low = append(m.low, n)
				} else {
					m.high = append(m.high, n)
				}
			}
			return ok("")
		},
		"whole": func([]string) (string, api.Errno) {
			x, cost, e := whole.Solve(m.p, m.low, m.high)
			if e != api.OK {
				return refuse(e)
			}
			return ok(plain("x", x) + plain("cost", cost))
		},
		"bags " + anInt + ints: func(a []string) (string, api.Errno) {
			counts, e := whole.Bags(integers(a[1]), integers(a[0])[0])
			if e != api.OK {
				return refuse(e)
			}
			return ok(plain("bags", counts))
		},
		"clear program": func([]string) (string, api.Errno) {
			m.p, m.low, m.high = api.Program{}, nil, nil
			return ok("")
		},
	}
}

func (m *model) ofSheet() map[string]doing {
	return map[string]doing{
		"sheet " + anInt + " " + anInt: func(a []string) (string, api.Errno) {
			w, h := integers(a[0])[0], integers(a[1])[0]
			if w < 1 || w > 6 || h < 1 || h > 6 {
				return refuse(api.ErrArg)
			}
			m.sheet = &api.Sheet{W: w, H: h}
			return ok("")
		},
		"hole " + anInt + " " + anInt: func(a []string) (string, api.Errno) {
			if m.sheet == nil {
				return refuse(api.ErrState)
			}
			x, y := integers(a[0])[0], integers(a[1])[0]
			if x < 0 || x >= m.sheet.W || y < 0 || y >= m.sheet.H || strings.Contains(fmt.Sprint(m.sheet.Holes), fmt.Sprintf("{%d %d}", x, y)) {
				return refuse(api.ErrArg)
			}
			m.sheet.Holes = append(m.sheet.Holes, api.Point{X: x, Y: y})
			return ok("")
		},
		"cutter (turn|flip|both|plain)" + twoInts: func(a []string) (string, api.Errno) {
			if len(m.cutters) >= 8 {
				return refuse(api.ErrFull)
			}
			c := api.Cutter{Turn: a[0] == "turn" || a[0] == "both", Flip: a[0] == "flip" || a[0] == "both"}
			list := integers(a[1])
			for len(list) > 0 {
				c.Cells = append(c.Cells, api.Point{X: list[0], Y: list[1]})
				list = list[2:]
			}
			m.cutters = append(m.cutters, c)
			return ok("")
		},
		"tile": func([]string) (string, api.Errno) {
			if m.sheet == nil {
				return refuse(api.ErrState)
			}
			n, e := tile.Count(*m.sheet, m.cutters)
			if e != api.OK {
				return refuse(e)
			}
			return ok("ways " + string(n) + "\n")
		},
		"tiling " + aNum: func(a []string) (string, api.Errno) {
			if !isNum(a[0]) {
				return refuse(api.ErrForm)
			}
			if m.sheet == nil {
				return refuse(api.ErrState)
			}
			list, e := tile.At(*m.sheet, m.cutters, api.Num(a[0]))
			out := ""
			for _, l := range list {
				out += fmt.Sprintf("laid %d %d %d %d\n", l.Cutter, l.Way, l.At.X, l.At.Y)
			}
			return out, e
		},
		"clear sheet": func([]string) (string, api.Errno) {
			m.sheet, m.cutters = nil, nil
			return ok("")
		},
	}
}

func (m *model) ofGraph() map[string]doing {
	three := " " + anInt + " " + anInt + " " + anInt
	return map[string]doing{
		"nodes " + anInt: func(a []string) (string, api.Errno) {
			n := integers(a[0])[0]
			if n < 1 || n > 16 {
				return refuse(api.ErrArg)
			}
			m.nodes, m.arcs = n, nil
			return ok("")
		},
		"arc" + three: func(a []string) (string, api.Errno) {
			if len(m.arcs) >= 256 {
				return refuse(api.ErrFull)
			}
			list := integers(a...)
			m.arcs = append(m.arcs, api.Arc{From: list[0], To: list[1], Time: list[2]})
			return ok("")
		},
		"mean": func([]string) (string, api.Errno) {
			mean, _, e := line.Mean(m.nodes, m.arcs)
			if e != api.OK {
				return refuse(e)
			}
			critical, _ := line.Critical(m.nodes, m.arcs)
			period, _ := line.Cyclicity(m.nodes, m.arcs)
			return ok(plain("mean", mean) + plain("critical", critical) + plain("cyclicity", period))
		},
		"station " + anInt: func(a []string) (string, api.Errno) {
			if len(m.stations) >= 8 {
				return refuse(api.ErrFull)
			}
			m.stations = append(m.stations, integers(a[0])[0])
			return ok("")
		},
		"loop" + three: func(a []string) (string, api.Errno) {
			if len(m.loops) >= 8 {
				return refuse(api.ErrFull)
			}
			list := integers(a...)
			m.loops = append(m.loops, api.Loop{From: list[0], To: list[1], Trays: list[2]})
			return ok("")
		},
		"plant " + anInt: func(a []string) (string, api.Errno) {
			leaves, e := line.Plant(m.stations, m.loops, integers(a[0])[0])
			if e != api.OK {
				return refuse(e)
			}
			rate, _ := line.Rate(m.stations, m.loops)
			return ok(plain("leaves", leaves) + plain("rate", rate))
		},
		"clear graph": func([]string) (string, api.Errno) {
			m.nodes, m.arcs = 1, nil
			return ok("")
		},
		"clear plant": func([]string) (string, api.Errno) {
			m.stations, m.loops = nil, nil
			return ok("")
		},
	}
}

func (m *model) ofJobs() map[string]doing {
	return map[string]doing{
		"job " + anInt + ints: func(a []string) (string, api.Errno) {
			if len(m.table) >= 8 {
				return refuse(api.ErrFull)
			}
			m.table = append(m.table, integers(a...))
			m.release = append(m.release, 0)
			m.due = append(m.due, 10000)
			return ok("")
		},
		"window " + anInt + " " + anInt + " " + anInt: func(a []string) (string, api.Errno) {
			list := integers(a...)
			if list[0] < 0 || list[0] >= len(m.table) || list[1] < 0 || list[1] >= list[2] || list[2] > 10000 {
				return refuse(api.ErrArg)
			}
			m.release[list[0]], m.due[list[0]] = list[1], list[2]
			return ok("")
		},
		"shop": func([]string) (string, api.Errno) {
			load, kind, at, e := shop.Bound(m.table)
			if e != api.OK {
				return refuse(e)
			}
			return ok(fmt.Sprintf("load %d\n%s %d\n", load, [...]string{"job", "machine"}[kind], at))
		},
		"windows": func([]string) (string, api.Errno) {
			if _, e := shop.Windows(m.table, m.release, m.due); e != api.OK {
				return refuse(e)
			}
			return ok("fits\n")
		},
		"clear jobs": func([]string) (string, api.Errno) {
			m.table, m.release, m.due = nil, nil, nil
			return ok("")
		},
	}
}

func (m *model) ofLog() map[string]doing {
	onDisk := func(place string, do func(d *mirror.Disk)) (string, api.Errno) {
		if i := integers(place)[0]; i >= 0 && i <= 2 {
			do(m.disks[i])
			return ok("")
		}
		return refuse(api.ErrArg)
	}
	return map[string]doing{
		"post((?: [^ ]+)*)": func(a []string) (string, api.Errno) {
			if !m.isOpen {
				return refuse(api.ErrState)
			}
			n := len(m.log.Log())
			return fmt.Sprintf("entry %d\n", n), m.log.Post(strings.TrimPrefix(a[0], " "))
		},
		"log": func([]string) (string, api.Errno) {
			out := ""
			for _, entry := range m.log.Log() {
				out += strings.TrimSuffix("entry "+entry, " ") + "\n"
			}
			return ok(out)
		},
		"arm " + anInt + " " + anInt: func(a []string) (string, api.Errno) {
			return onDisk(a[0], func(d *mirror.Disk) { d.Arm(integers(a[1])[0]) })
		},
		"restart " + anInt + " " + anInt: func(a []string) (string, api.Errno) {
			return onDisk(a[0], func(d *mirror.Disk) { d.Restart(integers(a[1])[0]) })
		},
		"lose " + anInt: func(a []string) (string, api.Errno) {
			return onDisk(a[0], func(d *mirror.Disk) { d.Lose() })
		},
		"open": func([]string) (string, api.Errno) { return "", m.openLog() },
		"join " + anInt: func(a []string) (string, api.Errno) {
			i := integers(a[0])[0]
			if i < 0 || i > 2 {
				return refuse(api.ErrArg)
			}
			if !m.isOpen {
				return refuse(api.ErrState)
			}
			d := mirror.NewDisk()
			e := m.log.Join(i, d)
			if e == api.OK {
				m.disks[i] = d
			}
			return "", e
		},
		"uses": func([]string) (string, api.Errno) {
			words := strings.NewReplacer("true", "yes", "false", "no").Replace(fmt.Sprint(m.log.Uses()))
			return ok(plain("uses", words))
		},
	}
}

// P1: each reply is what the functions that the table names return.
func TestRepliesAreThoseOfModel(t *testing.T) {
	for seed := range 400 {
		r := rand.New(rand.NewSource(int64(seed)))
		w, m := works.New(), newModel()
		for range 60 {
			line := randomLine(r)
			got, want := w.Line(line), m.line(line)
			if got != want {
				t.Fatalf("seed %d: after %q, %q: %q, not %q", seed, m.done[:len(m.done)-1], line, got, want)
			}
		}
	}
}

// Lines about one part only, which get farther with it.
func TestRepliesAboutOnePart(t *testing.T) {
	for part := range 6 {
		for seed := range 120 {
			r := rand.New(rand.NewSource(int64(seed)))
			draw := writer{r}
			about := []func() string{draw.aboutRecipe, draw.aboutProgram, draw.aboutSheet, draw.aboutLine, draw.aboutShop, draw.aboutLog}[part]
			w, m := works.New(), newModel()
			for range 50 {
				line := about()
				got, want := w.Line(line), m.line(line)
				if got != want {
					t.Fatalf("after %q, %q: %q, not %q", m.done[:len(m.done)-1], line, got, want)
				}
			}
		}
	}
}

// What the drawn lines reply with: every command with success, and most of the errors.
func TestRandomLinesSayMuch(t *testing.T) {
	r := rand.New(rand.NewSource(1))
	said := map[string]int{}
	for range 300 {
		w := works.New()
		for range 60 {
			line := randomLine(r)
			reply := w.Line(line)
			first, _, _ := strings.Cut(line, " ")
			word, _, _ := strings.Cut(strings.TrimSpace(reply), " ")
			if isError(reply) {
				word = strings.TrimSpace(reply)
			}
			said[first]++
			said[first+": "+word]++
		}
	}
	for _, want := range strings.Split("recipe: |recipe: ! 12|recipe: ! 13|recipe: ! 2|scale: |scale: ! 13|scale: ! 1|type: params|type: ! 6|value: value|value: ! 1|value: ! 4|value: ! 6|cost: |row: |"+
		"part: |part: ! 1|part: ! 6|part: ! 4|blend: optimal|blend: infeasible|blend: unbounded|blend: ! 1|box: |whole: x|whole: ! 6|whole: ! 1|bags: bags|bags: ! 6|sheet: |hole: |hole: ! 7|hole: ! 1|"+
		"cutter: |tile: ways|tile: ! 7|tile: ! 1|tiling: laid|tiling: ! 6|tiling: ! 2|tiling: ! 7|nodes: |arc: |mean: mean|mean: ! 6|mean: ! 1|station: |loop: |plant: leaves|plant: ! 1|job: |window: |"+
		"window: ! 1|shop: load|shop: ! 1|windows: fits|windows: ! 6|windows: ! 1|post: entry|post: ! 7|post: ! 11|log: entry|arm: |arm: ! 1|restart: |restart: ! 1|lose: |lose: ! 1|open: |open: ! 11|"+
		"join: |join: ! 1|join: ! 7|uses: uses|try: ! 2|try: ! 7|clear: |clear: ! 2|#: |#x: ", "|") {
		if said[want] < 3 {
			t.Errorf("%q: %d times", want, said[want])
		}
	}
}
