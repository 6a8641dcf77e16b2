package lasso

// signs is of each kind what stands ahead of its part, or between its two.
var signs = [Always + 1]string{Not: "!", And: " & ", Or: " | ", Next: "X ", Until: " U ", Release: " R ", Ever: "F ", Always: "G "}

// Text writes a formula that may be: a name, true, !F, (F & G), (F | G), X F, (F U G), (F R G), F F, G F. Of any other it is empty.
func Text(f *Formula) string {
	if Right(f) != nil {
		return ""
	}
	return written(f)
}

func written(f *Formula) string {
	switch {
	case f.Kind == Atom:
		return f.Name
	case f.Kind == True:
		return "true"
	case parts[f.Kind] == 1:
		return signs[f.Kind] + written(f.Of[0])
	}
	return "(" + written(f.Of[0]) + signs[f.Kind] + written(f.Of[1]) + ")"
}

// Push is the same formula with not ahead of names and true alone; without Ever and Always: (true U F), (!true R F). It may have more parts, and be deeper, than Right lets one be that is handed in.
func Push(f *Formula) (*Formula, error) {
	if err := Right(f); err != nil {
		return nil, err
	}
	return pushed(f, false), nil
}

// pushed is what Push makes of a formula that may be, or (on its other side) of Not of it: all of it is new, even where one part stands in two places.
func pushed(f *Formula, other bool) *Formula {
	switch f.Kind {
	case Not:
		return pushed(f.Of[0], !other)
	case Ever:
		return pushed(made(Until, made(True), f.Of[0]), other)
	case Always:
		return pushed(made(Release, made(Not, made(True)), f.Of[0]), other)
	case Atom, True:
		leaf := &Formula{Kind: f.Kind, Name: f.Name}
		if other {
			return made(Not, leaf)
		}
		return leaf
	}
	g := &Formula{Kind: f.Kind}
	if other {
		g.Kind = otherSide(f.Kind)
	}
	for _, part := range f.Of {
		g.Of = append(g.Of, pushed(part, other))
	}
	return g
}

func made(kind int, of ...*Formula) *Formula { return &Formula{Kind: kind, Of: of} }

// otherSide is the kind that Not of a kind is, with Not ahead of what is within.
func otherSide(kind int) int {
	switch kind {
	case And:
		return Or
	case Or:
		return And
	case Until:
		return Release
	case Release:
		return Until
	}
	return kind
}
