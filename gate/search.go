package gate

import "signalcabin/api"

// What a variable, or a literal, is.
const (
	no   = -1
	free = 0
	yes  = 1
)

// none stands where there is no rule.
const none = -1

const (
	// maxLooks is how many literals are looked at before a search takes too long.
	maxLooks = 1 << 26

	// neverLong: a search that has chosen among the first so many variables alone may take as long as it likes. So it ends without ErrLimit with so few variables, and with the clauses of an expression of so few names and edges, which come first, and from which all else follows.
	neverLong = 12
)

// search gives values to variables: the first one that has none is chosen to be true, and all that follows from it is given too. Where that breaks a rule, a rule is learned that tells why, and as many choices are taken back as it asks for.
//
// A variable is false only where that follows from choices of others ahead of it: so the values that are found are the first ones.
type search struct {
	rules    []rule
	watching [][]int // by side of a literal: the rules that watch it
	value    []int   // by variable
	level    []int   // by variable that has a value: how many choices there were
	by       []int   // by variable that has a value: the rule from which it followed, or none
	given    []int   // the literals that are true, as they came to be
	starts   []int   // where in given each choice stands
	told     int     // of how many of given the rules know
	furthest int     // the greatest variable that was ever chosen
	looks    int
}

func begin(vars int) *search {
	return &search{
		watching: make([][]int, 2*vars+2),
		value:    make([]int, vars+1),
		level:    make([]int, vars+1),
		by:       make([]int, vars+1),
	}
}

func variable(literal int) int { return max(literal, -literal) }

// side is a literal as a number from 2 on, beside that of its other side.
func side(literal int) int {
	if literal < 0 {
		return -2*literal + 1
	}
	return 2 * literal
}

func (s *search) is(literal int) int {
	if literal < 0 {
		return -s.value[-literal]
	}
	return s.value[literal]
}

// values is what was found, in order of variables.
func (s *search) values() []bool {
	l := make([]bool, len(s.value)-1)
	for i := range l {
		l[i] = s.value[i+1] == yes
	}
	return l
}

// run ends when each variable has a value, or with the reason why not.
func (s *search) run() error {
	for {
		broken := s.follow()
		if broken != none && len(s.starts) == 0 {
			return api.ErrNone
		}
		if s.looks > maxLooks && s.furthest > neverLong {
			return api.ErrLimit
		}
		if broken != none {
			s.learn(s.why(broken))
			continue
		}
		v := s.firstFree()
		if v == len(s.value) {
			return nil
		}
		s.choose(v)
	}
}

// firstFree is the first variable without a value, or one beyond the last. All ahead of the last choice have one, or that would not have been chosen.
func (s *search) firstFree() int {
	v := 1
	if n := len(s.starts); n > 0 {
		v = s.given[s.starts[n-1]]
	}
	for v < len(s.value) && s.value[v] != free {
		v++
	}
	return v
}

func (s *search) choose(v int) {
	s.furthest = max(s.furthest, v)
	s.starts = append(s.starts, len(s.given))
	s.give(v, none)
}

func (s *search) give(literal, by int) {
	v := variable(literal)
	s.value[v] = yes
	if literal < 0 {
		s.value[v] = no
	}
	s.level[v] = len(s.starts)
	s.by[v] = by
	s.given = append(s.given, literal)
}

// back takes back all choices but so many of the first ones, and all that followed.
func (s *search) back(choices int) {
	start := s.starts[choices]
	for _, literal := range s.given[start:] {
		s.value[variable(literal)] = free
	}
	s.given = s.given[:start]
	s.starts = s.starts[:choices]
	s.told = start
}

// why is the literals of a new rule that follows from the others, and is broken too: one of them alone, the first, became false by the last choice; of the others the second did so last.
func (s *search) why(broken int) []int {
	literals := []int{0}
	seen := make([]bool, len(s.value))
	open := 0 // how many of those seen came by the last choice, and were not asked yet where from
	see := func(n int) {
		s.looks += len(s.rules[n].literals)
		for _, literal := range s.rules[n].literals {
			v := variable(literal)
			switch {
			case seen[v] || s.level[v] == 0:
			case s.level[v] == len(s.starts):
				open++
			default:
				literals = append(literals, literal)
			}
			seen[v] = true
		}
	}
	see(broken)
	for i := len(s.given) - 1; literals[0] == 0; i-- {
		v := variable(s.given[i])
		switch {
		case !seen[v]:
		case open == 1:
			literals[0] = -s.given[i]
		default:
			open--
			see(s.by[v])
		}
	}
	s.lastSecond(literals)
	return literals
}

func (s *search) lastSecond(literals []int) {
	for i := 2; i < len(literals); i++ {
		if s.level[variable(literals[i])] > s.level[variable(literals[1])] {
			literals[1], literals[i] = literals[i], literals[1]
		}
	}
}

// learn keeps a rule for good (so nothing is tried twice), and goes back to where its first literal followed from the others.
func (s *search) learn(literals []int) {
	if len(literals) == 1 {
		s.back(0)
		s.give(literals[0], none)
		return
	}
	s.back(s.level[variable(literals[1])])
	s.give(literals[0], s.add(literals))
}
