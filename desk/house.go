package desk

import (
	"strings"

	"signalcabin/api"
	"signalcabin/block"
	"signalcabin/cover"
	"signalcabin/expr"
	"signalcabin/gate"
	"signalcabin/induct"
	"signalcabin/ladder"
	"signalcabin/machine"
	"signalcabin/prop"
	"signalcabin/reach"
	"signalcabin/scan"
	"signalcabin/slice"
)

// house is what is kept from line to line.
type house struct {
	program ladder.Program
	state   scan.State
	made    *machine.Machine // the program's, once a line has asked for it: many lines may ask, and it may be great
}

// forms are all lines that there are, in order of their words: so help tells them.
func (h *house) forms() []form {
	const more = api.MaxText // a line has no more words than that
	return []form{
		{"answers", 1, more, h.answers},
		{"blocks", 0, more, h.blocks},
		{"check", 0, more, h.check},
		{"clear", 0, 0, h.clear},
		{"far", 0, 0, h.far},
		{"help", 0, 0, h.help},
		{"induct", 1, more, h.induct},
		{"lines", 0, 0, h.lines},
		{"pairs", 0, more, h.pairs},
		{"path", 1, 1, h.path},
		{"program", 0, more, h.parse},
		{"same", 0, more, h.same},
		{"scan", 0, 1, h.scan},
		{"slice", 0, more, h.slice},
		{"solve", 0, more, h.solve},
		{"states", 0, 0, h.states},
		{"tidy", 0, 0, h.tidy},
		{"tour", 0, 0, h.tour},
	}
}

// take makes it the program, from its start on, and tells how much it has.
func (h *house) take(p ladder.Program) string {
	*h = house{program: p, state: scan.Start(p)}
	return numbers(len(p.Names), len(p.Rungs))
}

// restart is all as at first.
func (h *house) restart() { h.take(ladder.Program{}) }

// machine is the program's. It is asked for behind what is read, since its error is told behind.
func (h *house) machine() *machine.Machine {
	if h.made == nil {
		h.made = sure(machine.Of(h.program))
	}
	return h.made
}

func (h *house) parse(words reading) string {
	return h.take(sure(ladder.Parse(strings.ReplaceAll(words.text(), ";", lineFeed))))
}

func (h *house) lines(reading) string {
	return strings.ReplaceAll(strings.TrimSuffix(ladder.Text(h.program), lineFeed), lineFeed, "; ")
}

func (h *house) scan(words reading) string {
	h.state = sure(scan.Step(h.program, h.state, words.bits()))
	return joined(append([]string{bits(h.state.Is)}, digits(h.state.Count)...)...)
}

func (h *house) states(reading) string {
	m := h.machine()
	return numbers(m.States, m.Inputs)
}

func (h *house) far(reading) string { return numbers(sure(reach.Far(h.machine()))...) }

func (h *house) path(words reading) string {
	to, _ := words.number()
	return numbers(sure(reach.Path(h.machine(), to))...)
}

func (h *house) check(words reading) string {
	e := words.expression()
	return verdict(prop.Check(h.machine(), e))
}

func (h *house) answers(words reading) string {
	n, rest := words.number()
	a, b := rest.two()
	return verdict(prop.Answers(h.machine(), a, b, n))
}

func (h *house) induct(words reading) string {
	most, rest := words.number()
	e := rest.expression()
	v := sure(induct.Check(h.machine(), e, most))
	return numbers(append([]int{v.Code, v.K}, v.Path...)...)
}

func (h *house) blocks(words reading) string {
	t := sure(block.Of(h.machine(), words))
	return numbers(sure(block.Blocks(t))...)
}

func (h *house) slice(words reading) string { return h.take(sure(slice.Of(h.program, words))) }

func (h *house) tidy(reading) string { return h.take(sure(slice.Tidy(h.program))) }

func (h *house) tour(reading) string {
	inputs, all, err := cover.Tour(h.machine())
	throw(err)
	if !all {
		inputs = append(inputs, -1)
	}
	return numbers(inputs...)
}

func (h *house) pairs(words reading) string {
	var l []string
	for _, p := range sure(cover.Pairs(words.expression())) {
		l = append(l, pair(p))
	}
	return strings.Join(l, comma+blank)
}

func (h *house) solve(words reading) string {
	e := words.expression()
	c, literal, err := gate.Of(e)
	throw(err)
	c.All = append(c.All, []int{literal})
	values := sure(gate.Solve(c))
	// The first variables are those of names, then of what edges were.
	return bits(values[:len(expr.Names(e))+len(expr.Edges(e))])
}

func (h *house) same(words reading) string {
	return bits([]bool{sure(gate.Same(words.two()))})
}

func (h *house) clear(reading) string {
	h.restart()
	return "clear"
}

func (h *house) help(reading) string {
	var l []string
	for _, f := range h.forms() {
		l = append(l, f.word)
	}
	return joined(l...)
}
