package ladder

import (
	"signalcabin/api"
	"signalcabin/expr"
)

// Check says whether a program may be. An error at a name is an At at its number; one at a rung an At at the number of all names and its own.
func Check(p Program) error {
	if len(p.Names) > api.MaxNames || len(p.Rungs) > api.MaxRungs {
		return api.ErrLimit
	}
	for i := range p.Names {
		if what := p.wrongName(i); what != api.OK {
			return &api.At{Err: what, Place: i}
		}
	}
	for i, r := range p.Rungs {
		if what := p.wrongRung(r); what != api.OK {
			return &api.At{Err: what, Place: len(p.Names) + i}
		}
	}
	return nil
}

// wrongName is what is wrong with the name of a number: OK, if nothing is.
func (p Program) wrongName(i int) api.Errno {
	n := p.Names[i]
	switch {
	case !expr.Name(n.Name):
		return api.ErrName
	case n.Kind < Input || n.Kind > Counter:
		return api.ErrArg
	case !mayCount(n.Kind, n.Count):
		return api.ErrRange
	case p.Number(n.Name) < i:
		return api.ErrTwice
	}
	return api.OK
}

func mayCount(kind, count int) bool {
	if isCounted(kind) {
		return count >= 1 && count <= api.MaxCount
	}
	return count == 0
}

// wrongRung is what is wrong with a rung: OK, if nothing is.
func (p Program) wrongRung(r Rung) api.Errno {
	if r.Kind < Sets || r.Kind > Zero || r.If == nil {
		return api.ErrArg
	}
	of := p.Number(r.Name)
	if of < 0 {
		return api.ErrMissing
	}
	if p.Names[of].Kind != kindOf(r.Kind) {
		return api.ErrArg
	}
	for _, name := range expr.Names(r.If) {
		if p.Number(name) < 0 {
			return api.ErrMissing
		}
	}
	return api.OK
}

// kindOf is the kind of the names that rungs of a kind are for.
func kindOf(rung int) int {
	switch rung {
	case Run:
		return Timer
	case Count, Zero:
		return Counter
	}
	return Coil
}
