// Package expr: what contacts say.
package expr

import (
	"slices"
	"strings"
)

// Expr is an expression; one is told apart by its type: Const, Bit, Rise, Fall, Not, And, Or.
type Expr interface {
	// Text writes it.
	Text() string
}

// Const is always true, or always false.
type Const bool

// Bit is true where a name is.
type Bit string

// Rise is true where a name is, and was not.
type Rise string

// Fall is true where a name was, and is not.
type Fall string

// Not is true where another one isn't.
type Not struct{ Of Expr }

// And is true where all are.
type And []Expr

// Or is true where one is.
type Or []Expr

// Text writes it.
func (c Const) Text() string {
	if c {
		return "1"
	}
	return "0"
}

// Text writes it.
func (x Bit) Text() string { return string(x) }

// Text writes it.
func (x Rise) Text() string { return "^" + string(x) }

// Text writes it.
func (x Fall) Text() string { return "~" + string(x) }

// Text writes it.
func (n Not) Text() string { return written(n) }

// Text writes it.
func (l And) Text() string { return written(l) }

// Text writes it.
func (l Or) Text() string { return written(l) }

// Text writes an expression. Nil is empty, and so is one of a foreign type, if it can't be asked.
func Text(e Expr) (text string) {
	if e == nil {
		return ""
	}
	defer func() {
		if recover() != nil {
			text = ""
		}
	}()
	return e.Text()
}

// written puts all parts into one builder: to join the texts of parts level by level would take the square of the depth.
func written(e Expr) string {
	var b strings.Builder
	write(&b, e)
	return b.String()
}

func write(b *strings.Builder, e Expr) {
	switch x := e.(type) {
	case Not:
		b.WriteByte('!')
		writeWithin(b, x.Of, isList(x.Of))
	case And:
		for i, part := range x {
			writeBetween(b, i, " & ")
			writeWithin(b, part, isList(part))
		}
	case Or:
		for i, part := range x {
			writeBetween(b, i, " | ")
			writeWithin(b, part, isOr(part))
		}
	default:
		b.WriteString(Text(e))
	}
}

func writeBetween(b *strings.Builder, i int, sign string) {
	if i > 0 {
		b.WriteString(sign)
	}
}

func writeWithin(b *strings.Builder, e Expr, parentheses bool) {
	if !parentheses {
		write(b, e)
		return
	}
	b.WriteByte('(')
	write(b, e)
	b.WriteByte(')')
}

func isAnd(e Expr) bool {
	_, ok := e.(And)
	return ok
}

func isOr(e Expr) bool {
	_, ok := e.(Or)
	return ok
}

func isList(e Expr) bool { return isAnd(e) || isOr(e) }

// Eval is what an expression says, if is tells what names are, and was what they were. A nil function tells of no name that it is true; where one panics, the answer is false: no call of this package panics.
func Eval(e Expr, is, was func(name string) bool) (says bool) {
	defer func() {
		if recover() != nil {
			says = false
		}
	}()
	return eval(e, orNever(is), orNever(was))
}

func orNever(tells func(name string) bool) func(name string) bool {
	if tells == nil {
		return func(string) bool { return false }
	}
	return tells
}

func eval(e Expr, is, was func(name string) bool) bool {
	switch x := e.(type) {
	case Const:
		return bool(x)
	case Bit:
		return is(string(x))
	case Rise:
		return is(string(x)) && !was(string(x))
	case Fall:
		return !is(string(x)) && was(string(x))
	case Not:
		return !eval(x.Of, is, was)
	case And:
		return !hasOne(x, false, is, was)
	case Or:
		return hasOne(x, true, is, was)
	}
	return false
}

// hasOne says whether a list has a part that says this.
func hasOne(l []Expr, this bool, is, was func(name string) bool) bool {
	for _, part := range l {
		if eval(part, is, was) == this {
			return true
		}
	}
	return false
}

// Names are those that an expression names, in order of bytes, each once; Edges are those of which it asks what they were.
func Names(e Expr) []string {
	var l []string
	eachName(e, func(name string, edge bool) { l = append(l, name) })
	return inOrder(l)
}

// Edges are the names of which it asks what they were, likewise.
func Edges(e Expr) []string {
	var l []string
	eachName(e, func(name string, edge bool) {
		if edge {
			l = append(l, name)
		}
	})
	return inOrder(l)
}

func inOrder(l []string) []string {
	slices.Sort(l)
	return slices.Compact(l)
}

func eachName(e Expr, found func(name string, edge bool)) {
	switch x := e.(type) {
	case Bit:
		found(string(x), false)
	case Rise:
		found(string(x), true)
	case Fall:
		found(string(x), true)
	}
	for _, part := range within(e) {
		eachName(part, found)
	}
}

// Size is how many expressions there are in it: itself, and all within.
func Size(e Expr) int {
	if e == nil {
		return 0
	}
	n := 1
	for _, part := range within(e) {
		n += Size(part)
	}
	return n
}

// within is the parts right within an expression: a list that may be the expression's own, so it is read alone.
func within(e Expr) []Expr {
	switch x := e.(type) {
	case Not:
		return []Expr{x.Of}
	case And:
		return x
	case Or:
		return x
	}
	return nil
}
