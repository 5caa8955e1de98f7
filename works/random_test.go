package works_test

import (
	"math/rand"
	"strconv"
	"strings"
)

// A writer draws lines.
type writer struct{ *rand.Rand }

func (r writer) upTo(least, most int) string { return strconv.Itoa(least + r.Intn(most-least+1)) }

func (r writer) num() string { return pick(r.Rand, "0 1 2 3 5 -1 -2 1/2 3/4 -5/3 7 4") }

func (r writer) place() string { return pick(r.Rand, "0 1 2 0 1 2 0 1 2 3") }

// atom returns a short expression, most often one without an error.
func (r writer) atom() string {
	units := pick(r.Rand, "kg cup kg^2 kg^-1 kg*cup")
	return pick(r.Rand, "a b flour mix p 0 1 2 3/4 0.5 f(a) f(2) mix(2) 3["+strings.Replace(units, "*", "]*2[", 1)+"] 7["+units[:1]+"g] 1/0")
}

func (r writer) definition() string {
	names := "a b flour mix f a1 b1 c"
	expr := r.atom()
	switch r.Intn(5) {
	case 0:
		expr += " * " + r.atom()
	case 1:
		expr += " + " + r.atom()
	case 2:
		expr = "if " + expr + " < " + r.atom() + " then 2 else 1/2"
	}
	switch r.Intn(7) {
	case 0, 1:
		return "recipe unit " + pick(r.Rand, "kg cup")
	case 2:
		return "recipe fun " + pick(r.Rand, names) + "(p) = " + expr
	}
	return "recipe let " + pick(r.Rand, names) + " = " + expr
}

func (r writer) aboutRecipe() string {
	switch r.Intn(8) {
	case 0:
		return "scale " + pick(r.Rand, "kg cup kg cup g") + " " + pick(r.Rand, "1 2 3/2 1/10 0 -1")
	case 1, 2:
		return pick(r.Rand, "type value") + " " + pick(r.Rand, "a b flour mix kg")
	case 3:
		return "part " + r.upTo(0, 2) + " " + pick(r.Rand, "a b flour mix")
	}
	return r.definition()
}

func (r writer) aboutProgram() string {
	n := 2 + r.Intn(8)/7
	switch r.Intn(12) {
	case 0, 1:
		return "cost " + several(n, func() string { return pick(r.Rand, "0 1 2 3 5 1 2 3 1/2 -1") })
	case 2, 3, 4:
		return "row " + pick(r.Rand, "most least least equal") + " " + several(n+1, r.num)
	case 5, 6:
		return "box " + several(n, func() string { return r.upTo(0, 2) + " " + r.upTo(2, 9) })
	case 7:
		return "bags " + r.upTo(0, 30) + " " + several(1+r.Intn(3), func() string { return r.upTo(1, 9) })
	case 8, 9:
		return "whole"
	}
	return "blend"
}

func (r writer) aboutSheet() string {
	small := func() string { return r.upTo(0, 2) }
	switch r.Intn(10) {
	case 0, 1:
		return "sheet " + r.upTo(1, 3) + " " + r.upTo(1, 4)
	case 2, 3:
		return "hole " + small() + " " + small()
	case 4, 5:
		return "cutter " + pick(r.Rand, "turn flip both plain") + " " + several(2+2*r.Intn(3), small)
	case 6:
		return "cutter plain 0 0"
	case 7, 8:
		return "tiling " + r.num()
	}
	return "tile"
}

func (r writer) aboutLine() string {
	switch r.Intn(10) {
	case 0:
		return "nodes " + r.upTo(1, 4)
	case 1, 2, 3:
		return "arc " + several(2, func() string { return r.upTo(0, 2) }) + " " + r.upTo(-9, 9)
	case 4:
		return "station " + r.upTo(0, 9)
	case 5:
		from := r.Intn(3)
		return "loop " + strconv.Itoa(from) + " " + r.upTo(from, 3) + " " + r.upTo(1, 3)
	case 6, 7:
		return "plant " + r.upTo(0, 9)
	}
	return "mean"
}

func (r writer) aboutShop() string {
	switch r.Intn(8) {
	case 0, 1, 2:
		return "job " + several(2, func() string { return r.upTo(0, 5) })
	case 3, 4:
		release := r.Intn(9)
		return "window " + r.upTo(0, 3) + " " + strconv.Itoa(release) + " " + r.upTo(release, release+12)
	case 5:
		return "shop"
	}
	return "windows"
}

func (r writer) aboutLog() string {
	switch r.Intn(14) {
	case 0, 1, 2, 3:
		return strings.TrimRight("post "+several(r.Intn(3), func() string { return pick(r.Rand, "a b tray 12 # !") }), " ")
	case 4, 5:
		return "arm " + r.place() + " " + r.upTo(-1, 5)
	case 6, 7:
		return "restart " + r.place() + " " + pick(r.Rand, "0 1 5 20 1000 -1")
	case 8:
		return "lose " + r.place()
	case 9, 10:
		return "join " + r.place()
	case 11:
		return pick(r.Rand, "log uses")
	}
	return "open"
}

// randomLine returns a line, most often one that makes sense.
func randomLine(random *rand.Rand) string {
	r := writer{random}
	about := []func() string{r.aboutRecipe, r.aboutRecipe, r.aboutProgram, r.aboutProgram, r.aboutSheet, r.aboutLine, r.aboutShop, r.aboutLog, r.aboutLog}
	line := about[r.Intn(len(about))]()
	switch r.Intn(40) {
	case 0, 1, 2:
		return "try " + line
	case 3:
		return spoiled(r, line)
	case 4:
		return pick(random, "# #x try recipe uses log")
	case 5:
		if r.Intn(6) == 0 {
			return "clear " + pick(random, "recipe program sheet graph plant jobs x")
		}
	}
	return line
}

// spoiled returns a line with a word that is left out, doubled or replaced.
func spoiled(r writer, line string) string {
	words := strings.Split(line, " ")
	at := r.Intn(len(words))
	switch r.Intn(5) {
	case 0:
		words = append(words[:at:at], words[at+1:]...)
	case 1:
		words = append(words[:at+1:at+1], words[at:]...)
	case 2:
		words[at] = ""
	case 3:
		words = append(words, pick(r.Rand, "0 1 x -0"))
	default:
		words[at] = pick(r.Rand, "-0 01 1/2 2/4 x 9999999999999 999999999999 -1 try recipe 1.5 most plain #")
	}
	return strings.Join(words, " ")
}
