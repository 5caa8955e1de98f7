package works

import (
	"slices"
	"strings"

	"cracknel/api"
)

// A command is what the first word of a line names. It gets the other words, which
// have its form, and returns the reply.
type command struct {
	name string
	form form
	do   func(w *Works, words []string) (string, api.Errno)
}

func commands() []command {
	return []command{
		{"recipe", just(aLine), (*Works).addDefinition},
		{"scale", just(aWord, aNum), (*Works).setScale},
		{"type", just(aWord), (*Works).showType},
		{"value", just(aWord), (*Works).showValue},
		{"cost", form{more: some, of: aNum}, (*Works).setCosts},
		{"row", form{first: []sort{aWord, aNum}, more: many, of: aNum}, (*Works).addRow},
		{"part", just(aNumber, aWord), (*Works).setPart},
		{"blend", just(), (*Works).solveBlend},
		{"box", form{more: pairs, of: aNumber}, (*Works).setBoxes},
		{"whole", just(), (*Works).solveWhole},
		{"bags", form{first: []sort{aNumber}, more: many, of: aNumber}, (*Works).fillBags},
		{"sheet", just(aNumber, aNumber), (*Works).setSheet},
		{"hole", just(aNumber, aNumber), (*Works).addHole},
		{"cutter", form{first: []sort{aWord}, more: pairs, of: aNumber}, (*Works).addCutter},
		{"tile", just(), (*Works).countTilings},
		{"tiling", just(aNum), (*Works).showTiling},
		{"nodes", just(aNumber), (*Works).setNodes},
		{"arc", just(aNumber, aNumber, aNumber), (*Works).addArc},
		{"mean", just(), (*Works).showMean},
		{"station", just(aNumber), (*Works).addStation},
		{"loop", just(aNumber, aNumber, aNumber), (*Works).addLoop},
		{"plant", just(aNumber), (*Works).runPlant},
		{"job", form{more: some, of: aNumber}, (*Works).addJob},
		{"window", just(aNumber, aNumber, aNumber), (*Works).setWindow},
		{"shop", just(), (*Works).showLoad},
		{"windows", just(), (*Works).tryWindows},
		{"post", form{more: many, of: aWord}, (*Works).post},
		{"log", just(), (*Works).showLog},
		{"arm", just(aNumber, aNumber), (*Works).armDisk},
		{"restart", just(aNumber, aNumber), (*Works).restartDisk},
		{"lose", just(aNumber), (*Works).loseDisk},
		{"open", just(), (*Works).open},
		{"join", just(aNumber), (*Works).join},
		{"uses", just(), (*Works).showUses},
		{"try", just(aLine), (*Works).try},
		{"clear", just(aWord), (*Works).clear},
	}
}

// obey does a line that is not empty.
func (w *Works) obey(line string) (string, api.Errno) {
	name, rest, hasRest := strings.Cut(line, " ")
	table := commands()
	at := slices.IndexFunc(table, func(c command) bool { return c.name == name })
	if at < 0 {
		return "", api.ErrForm
	}
	c := table[at]
	var words []string
	if hasRest {
		words = c.form.split(rest)
	}
	if !c.form.fits(words) {
		return "", api.ErrForm
	}
	return c.do(w, words)
}
