package lasso

import "slices"

// times is what is true at each time of a word: those ahead, then those of one round; behind the last one comes the round's first one again.
type times struct {
	names [][]string
	round int
}

func timesOf(w Word) times { return times{slices.Concat(w.Ahead, w.Round), len(w.Ahead)} }

func (t times) next(at int) int {
	if at+1 < len(t.names) {
		return at + 1
	}
	return t.round
}

// so tells of a time whether something is so then.
type so func(at int) bool

// now tells of a time whether a formula that may be holds then.
func (t times) now(f *Formula) so {
	of := make([]so, len(f.Of))
	for i, part := range f.Of {
		of[i] = t.now(part)
	}
	switch f.Kind {
	case Atom:
		return func(at int) bool { return slices.Contains(t.names[at], f.Name) }
	case Not:
		return not(of[0])
	case And:
		return func(at int) bool { return of[0](at) && of[1](at) }
	case Or:
		return func(at int) bool { return of[0](at) || of[1](at) }
	case Next:
		return func(at int) bool { return of[0](t.next(at)) }
	case Until:
		return t.until(of[0], of[1])
	case Release:
		return not(t.until(not(of[0]), not(of[1])))
	case Ever:
		return t.until(anytime, of[0])
	case Always:
		return not(t.until(anytime, not(of[0])))
	}
	return anytime
}

func anytime(at int) bool { return true }

func not(is so) so {
	return func(at int) bool { return !is(at) }
}

// until tells of a time whether the second is so then or later, and the first at each time ahead of that: by now and the next time, from the last time on backwards. It is gone twice: what the last one's next time says is known only behind the first way. All is told once and kept, else what is nested would be asked again and again.
func (t times) until(first, second so) so {
	holds := make([]bool, len(t.names))
	for range 2 {
		for at := len(holds) - 1; at >= 0; at-- {
			holds[at] = second(at) || first(at) && holds[t.next(at)]
		}
	}
	return func(at int) bool { return holds[at] }
}
