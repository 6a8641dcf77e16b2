package gate

import (
	"slices"

	"signalcabin/api"
	"signalcabin/expr"
)

// maxSize is how many expressions there may be in one that clauses are made of.
const maxSize = 300

// contact is what is asked of a name: what it is, or what it was.
type contact struct {
	name string
	was  bool
}

// builder makes the clauses of an expression, part by part.
type builder struct {
	Clauses
	variables map[contact]int
}

// Of is an expression's clauses, and its literal: variables are its names, in order of bytes, then what those were of which it asks that, likewise; then a new one for each part, from within to without: that it is true just if the part is.
func Of(e expr.Expr) (Clauses, int, error) {
	if e == nil {
		return Clauses{}, 0, api.ErrMissing
	}
	if room(e, maxSize) < 0 {
		return Clauses{}, 0, api.ErrLimit
	}
	b := &builder{variables: map[contact]int{}}
	for _, name := range expr.Names(e) {
		b.variables[contact{name: name}] = b.next()
	}
	for _, name := range expr.Edges(e) {
		b.variables[contact{name: name, was: true}] = b.next()
	}
	literal := b.literal(e)
	return b.Clauses, literal, nil
}

// room is what an expression leaves of room for so many. It ends below 0, where Size would count on: an expression that has one part in many places is far greater than what it is made of.
func room(e expr.Expr, most int) int {
	if e == nil || most < 0 {
		return most
	}
	most--
	switch x := e.(type) {
	case expr.Not:
		return room(x.Of, most)
	case expr.And:
		return roomBeside(x, most)
	case expr.Or:
		return roomBeside(x, most)
	}
	return most
}

func roomBeside(l []expr.Expr, most int) int {
	for _, part := range l {
		most = room(part, most)
	}
	return most
}

// next is a new variable.
func (b *builder) next() int {
	b.Vars++
	return b.Vars
}

// add keeps a copy: no clause may share its literals with a list that is handed on.
func (b *builder) add(literals ...int) {
	b.All = append(b.All, slices.Clone(literals))
}

// literal is true just if an expression is. What is none of the seven types is as Eval has it: never true.
func (b *builder) literal(e expr.Expr) int {
	switch x := e.(type) {
	case expr.Const:
		return b.constant(bool(x))
	case expr.Bit:
		return b.is(string(x))
	case expr.Rise:
		return b.and(b.is(string(x)), -b.was(string(x)))
	case expr.Fall:
		return b.and(-b.is(string(x)), b.was(string(x)))
	case expr.Not:
		return -b.literal(x.Of)
	case expr.And:
		return b.and(b.literals(x, 1)...)
	case expr.Or:
		return -b.and(b.literals(x, -1)...)
	}
	return b.constant(false)
}

func (b *builder) is(name string) int { return b.variables[contact{name: name}] }

func (b *builder) was(name string) int { return b.variables[contact{name: name, was: true}] }

// literals is those of parts, or (with side -1) their other sides.
func (b *builder) literals(parts []expr.Expr, side int) []int {
	l := make([]int, len(parts))
	for i, part := range parts {
		l[i] = side * b.literal(part)
	}
	return l
}

func (b *builder) constant(is bool) int {
	w := b.next()
	if is {
		b.add(w)
	} else {
		b.add(-w)
	}
	return w
}

// and is a new variable that is true just if all literals are.
func (b *builder) and(literals ...int) int {
	w := b.next()
	all := []int{w}
	for _, x := range literals {
		b.add(-w, x)
		all = append(all, -x)
	}
	b.add(all...)
	return w
}
