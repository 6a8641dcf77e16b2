package route

import (
	"slices"
	"strconv"

	"signalcabin/expr"
	"signalcabin/ladder"
)

// The letters that names begin with; a number stands behind.
const (
	asked    = "a" // a route is asked for
	occupied = "b" // a section is
	locked   = "l" // a route is
	over     = "p" // a point lies so
)

func named(letter string, number int) string { return letter + strconv.Itoa(number) }

func is(letter string, number int) expr.Expr { return expr.Bit(named(letter, number)) }

func isNot(letter string, number int) expr.Expr { return expr.Not{Of: is(letter, number)} }

// all puts parts together by And. One alone is that; without any it is always so.
func all(parts ...expr.Expr) expr.Expr {
	switch len(parts) {
	case 0:
		return expr.Const(true)
	case 1:
		return parts[0]
	}
	return expr.And(parts)
}

// some puts parts together by Or, one at least. One alone is that.
func some(parts ...expr.Expr) expr.Expr {
	if len(parts) == 1 {
		return parts[0]
	}
	return expr.Or(parts)
}

// Ladder is the program that keeps a table: inputs a0, a1, .. (route is asked for), b0, .. (section is occupied); coils l0, .. (route is locked), p0, .. (point lies over). Then, route by route: it is let go (reset), if it isn't asked for, and none of its sections is occupied; then, route by route: it is locked (set), if it is asked for, none of its sections is occupied, and no route that clashes with it is locked; then, point by point: it is laid over (set), if a route that wants that is locked; back (reset), if one is that wants that.
func Ladder(t Table) (ladder.Program, error) {
	if err := Check(t); err != nil {
		return ladder.Program{}, err
	}
	rungs := slices.Concat(t.lettingGo(), t.locking(), t.laying())
	return ladder.Program{Names: t.names(), Rungs: rungs}, nil
}

func (t Table) names() []ladder.Name {
	var l []ladder.Name
	add := func(kind int, letter string, many int) {
		for i := range many {
			l = append(l, ladder.Name{Name: named(letter, i), Kind: kind})
		}
	}
	add(ladder.Input, asked, len(t.Routes))
	add(ladder.Input, occupied, t.Sections)
	add(ladder.Coil, locked, len(t.Routes))
	add(ladder.Coil, over, t.Points)
	return l
}

func (t Table) lettingGo() []ladder.Rung {
	var l []ladder.Rung
	for i, r := range t.Routes {
		parts := append([]expr.Expr{isNot(asked, i)}, r.free()...)
		l = append(l, ladder.Rung{Kind: ladder.Reset, Name: named(locked, i), If: all(parts...)})
	}
	return l
}

func (t Table) locking() []ladder.Rung {
	var l []ladder.Rung
	for i, r := range t.Routes {
		parts := append([]expr.Expr{is(asked, i)}, r.free()...)
		for _, other := range t.clashing(i) {
			parts = append(parts, isNot(locked, other))
		}
		l = append(l, ladder.Rung{Kind: ladder.Set, Name: named(locked, i), If: all(parts...)})
	}
	return l
}

// free tells of each of a route's sections that it isn't occupied.
func (r Route) free() []expr.Expr {
	var l []expr.Expr
	for _, s := range r.Sections {
		l = append(l, isNot(occupied, s))
	}
	return l
}

// clashing are the numbers of the other routes that can't be while this one is, rising.
func (t Table) clashing(route int) []int {
	var l []int
	for i, other := range t.Routes {
		if i != route && Clash(t.Routes[route], other) {
			l = append(l, i)
		}
	}
	return l
}

func (t Table) laying() []ladder.Rung {
	var l []ladder.Rung
	add := func(kind, point int, wanting []expr.Expr) {
		if len(wanting) > 0 {
			l = append(l, ladder.Rung{Kind: kind, Name: named(over, point), If: some(wanting...)})
		}
	}
	for point := range t.Points {
		add(ladder.Set, point, t.wanting(Point{Number: point, Over: true}))
		add(ladder.Reset, point, t.wanting(Point{Number: point, Over: false}))
	}
	return l
}

// wanting tells of each route that wants a point so that it is locked.
func (t Table) wanting(p Point) []expr.Expr {
	var l []expr.Expr
	for i, r := range t.Routes {
		if slices.Contains(r.Points, p) {
			l = append(l, is(locked, i))
		}
	}
	return l
}

// Safe is what must hold behind each scan: no two routes that clash are locked; where one is locked, its points lie as it wants; and no point of a locked route has an edge while the route was locked ahead.
func Safe(t Table) (expr.Expr, error) {
	if err := Check(t); err != nil {
		return nil, err
	}
	var parts []expr.Expr
	for i, r := range t.Routes {
		for _, other := range t.clashing(i) {
			if other < i {
				parts = append(parts, expr.Not{Of: all(is(locked, other), is(locked, i))})
			}
		}
		for _, p := range r.Points {
			parts = append(parts, lies(i, p), rests(i, p.Number))
		}
	}
	return all(parts...), nil
}

// lies: while a route is locked, a point is as it wants it.
func lies(route int, p Point) expr.Expr {
	if p.Over {
		return some(isNot(locked, route), is(over, p.Number))
	}
	return some(isNot(locked, route), isNot(over, p.Number))
}

// rests: while a route is locked, and was, a point doesn't move.
func rests(route, point int) expr.Expr {
	lock, lie := named(locked, route), named(over, point)
	moves := some(expr.Rise(lie), expr.Fall(lie))
	return some(expr.Not{Of: expr.Bit(lock)}, expr.Rise(lock), expr.Not{Of: moves})
}
