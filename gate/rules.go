package gate

// rule is a clause of at least two variables. It watches its first two literals: while neither is false, or one is true, nothing follows from it.
type rule struct {
	literals []int
	from     int // where it looks next for another one to watch; always from the beginning on, a long rule would take the square of its length
}

// take adds a clause, ahead of all choices, without literals that stand there twice, and none that holds whatever its variables are. It is false, if it is seen at once that not all clauses can hold.
func (s *search) take(clause []int) bool {
	var literals []int
	seen := make([]bool, len(s.watching))
	for _, literal := range clause {
		if seen[side(-literal)] {
			return true
		}
		if !seen[side(literal)] {
			seen[side(literal)] = true
			literals = append(literals, literal)
		}
	}
	switch len(literals) {
	case 0:
		return false
	case 1:
		if s.is(literals[0]) == free {
			s.give(literals[0], none)
		}
		return s.is(literals[0]) == yes
	}
	s.add(literals)
	return true
}

// add is the number of a new rule.
func (s *search) add(literals []int) int {
	n := len(s.rules)
	s.rules = append(s.rules, rule{literals: literals, from: 2})
	s.watch(n, literals[0])
	s.watch(n, literals[1])
	return n
}

func (s *search) watch(n, literal int) {
	s.watching[side(literal)] = append(s.watching[side(literal)], n)
}

// follow gives all that follows from what is given. It is a rule that is broken then, if there is one.
func (s *search) follow() int {
	for s.told < len(s.given) {
		literal := s.given[s.told]
		s.told++
		if broken := s.turnFalse(-literal); broken != none {
			return broken
		}
	}
	return none
}

// turnFalse tells the rules that watch a literal that it is false.
func (s *search) turnFalse(literal int) int {
	watching := s.watching[side(literal)]
	kept := watching[:0]
	broken := none
	for i, n := range watching {
		if s.moves(n, literal) {
			continue
		}
		kept = append(kept, n)
		other := s.rules[n].literals[0]
		if s.is(other) == free {
			s.give(other, n)
		}
		if s.is(other) == no {
			kept = append(kept, watching[i+1:]...)
			broken = n
			break
		}
	}
	s.watching[side(literal)] = kept
	return broken
}

// moves makes a rule watch another literal instead of one that is false, if it needs one, and has one. Else the false one is its second then.
func (s *search) moves(n, literal int) bool {
	r := &s.rules[n]
	l := r.literals
	if l[0] == literal {
		l[0], l[1] = l[1], l[0]
	}
	s.looks++
	if s.is(l[0]) == yes {
		return false
	}
	for range len(l) - 2 {
		if r.from == len(l) {
			r.from = 2
		}
		at := r.from
		r.from++
		s.looks++
		if s.is(l[at]) != no {
			l[1], l[at] = l[at], l[1]
			s.watch(n, l[1])
			return true
		}
	}
	return false
}
