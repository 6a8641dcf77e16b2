package expr

import (
	"strconv"
	"strings"
)

// Tidy is an expression that says the same, put together again from within to without: Not of Const is the other one, of Not what that is of; And (Or) takes in the parts of those within it that are And (Or), leaves out what is 1 (0) and what stands there already, is 0 (1), if one part is, or if one is Not of another one; with one part it is that, with none 1 (0).
func Tidy(e Expr) Expr {
	t := tidier{numbers: map[string]int{}}
	return t.tidy(e).made
}

// tidied is what was made tidy, with a number that stands for its Text.
type tidied struct {
	made   Expr
	number int
	parts  []tidied // of Not, And, Or: what they are made of
}

// tidier numbers texts: two things have one number just if they have one Text. Numbers are held against each other in place of the texts, which may be as long as the whole, once for each part within it.
type tidier struct{ numbers map[string]int }

func (t tidier) number(text string) int {
	n, ok := t.numbers[text]
	if !ok {
		n = len(t.numbers)
		t.numbers[text] = n
	}
	return n
}

// numberOf is the number of a sign ahead of parts that are told by theirs. No name, and no other leaf, begins as such a text does.
func (t tidier) numberOf(sign string, parts ...tidied) int {
	var b strings.Builder
	for _, p := range parts {
		b.WriteString(sign)
		b.WriteString(strconv.Itoa(p.number))
	}
	return t.number(b.String())
}

func (t tidier) leaf(e Expr) tidied {
	return tidied{made: e, number: t.number(Text(e))}
}

func (t tidier) tidy(e Expr) tidied {
	switch x := e.(type) {
	case Not:
		return t.not(t.tidy(x.Of))
	case And:
		return t.list(x, true)
	case Or:
		return t.list(x, false)
	}
	return t.leaf(e)
}

func (t tidier) not(of tidied) tidied {
	switch x := of.made.(type) {
	case Const:
		return t.leaf(!x)
	case Not:
		return of.parts[0]
	}
	return tidied{made: Not{of.made}, number: t.numberOf("!", of), parts: []tidied{of}}
}

func (t tidier) list(l []Expr, and bool) tidied {
	g := gathered{tidier: t, and: and, there: map[int]struct{}{}}
	g.take(l)
	return g.whole()
}

// gathered is the parts of an And, or an Or, that are left.
type gathered struct {
	tidier
	and     bool
	parts   []tidied
	there   map[int]struct{} // the numbers of parts
	decided bool             // one part makes it all 0 (of Or 1)
}

// take adds what is left of each part. What is within a list of the same kind is added right here: so it is not gone through once more for each list around it.
func (g *gathered) take(l []Expr) {
	for _, e := range l {
		if g.decided {
			return
		}
		if g.alike(e) {
			g.take(within(e))
			continue
		}
		x := g.tidy(e)
		if !g.alike(x.made) {
			g.add(x)
			continue
		}
		for _, part := range x.parts {
			g.add(part)
		}
	}
}

// alike says whether an expression is a list of the kind that is gathered.
func (g *gathered) alike(e Expr) bool {
	if g.and {
		return isAnd(e)
	}
	return isOr(e)
}

func (g *gathered) add(x tidied) {
	if c, ok := x.made.(Const); ok {
		g.decided = g.decided || bool(c) != g.and
		return
	}
	if _, ok := g.there[x.number]; ok {
		return
	}
	if _, ok := g.there[g.otherSide(x)]; ok {
		g.decided = true
		return
	}
	g.there[x.number] = struct{}{}
	g.parts = append(g.parts, x)
}

func (g *gathered) otherSide(x tidied) int {
	if _, ok := x.made.(Not); ok {
		return x.parts[0].number
	}
	return g.numberOf("!", x)
}

func (g *gathered) whole() tidied {
	switch {
	case g.decided:
		return g.leaf(Const(!g.and))
	case len(g.parts) == 0:
		return g.leaf(Const(g.and))
	case len(g.parts) == 1:
		return g.parts[0]
	}
	made := make([]Expr, len(g.parts))
	for i, x := range g.parts {
		made[i] = x.made
	}
	if g.and {
		return tidied{made: And(made), number: g.numberOf("&", g.parts...), parts: g.parts}
	}
	return tidied{made: Or(made), number: g.numberOf("|", g.parts...), parts: g.parts}
}
