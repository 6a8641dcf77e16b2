package lasso

import (
	"reflect"
	"slices"
	"testing"

	"signalcabin/api"
)

// Held against what the document says, of drawn words and formulas

// draw gives numbers that look drawn, the same each time.
type draw uint64

func (d *draw) below(n int) int {
	*d = *d*6364136223846793005 + 1442695040888963407
	return int(uint64(*d>>33) % uint64(n))
}

// row is so many times. Each of a, b, c is true at some; how often is drawn, too.
func (d *draw) row(many int) [][]string {
	often := 1 + d.below(4)
	l := make([][]string, many)
	for at := range l {
		for _, name := range []string{"a", "b", "c"} {
			if d.below(often+1) > 0 {
				l[at] = append(l[at], name)
			}
		}
	}
	return l
}

func (d *draw) word(ahead, round int) Word {
	return Word{d.row(d.below(ahead + 1)), d.row(1 + d.below(round))}
}

func (d *draw) formula(deep int) *Formula {
	if deep == 0 || d.below(8) == 0 {
		return []*Formula{atom("a"), atom("b"), atom("c"), made(True)}[d.below(4)]
	}
	kind := Not + d.below(8)
	f := d.formula(deep - 1)
	switch kind {
	case And, Or, Until, Release:
		if d.below(6) == 0 {
			return made(kind, f, f)
		}
		return made(kind, f, d.formula(deep-1))
	}
	return made(kind, f)
}

// names is which ones are true at a time, however late.
func names(w Word, at int) []string {
	if at < len(w.Ahead) {
		return w.Ahead[at]
	}
	return w.Round[(at-len(w.Ahead))%len(w.Round)]
}

// says is what the document says of a formula at a time, however late. As many times as the word has are enough to look at: behind them come none that were not there.
func says(w Word, f *Formula, at int) bool {
	enough := at + len(w.Ahead) + len(w.Round)
	one := func(at int) bool { return says(w, f.Of[0], at) }
	two := func(at int) bool { return says(w, f.Of[1], at) }
	switch f.Kind {
	case Atom:
		return slices.Contains(names(w, at), f.Name)
	case Not:
		return !one(at)
	case And:
		return one(at) && two(at)
	case Or:
		return one(at) || two(at)
	case Next:
		return one(at + 1)
	case Until:
		for later := at; later < enough; later++ {
			if two(later) {
				return true
			}
			if !one(later) {
				return false
			}
		}
		return false
	case Release:
		return !says(w, made(Until, made(Not, f.Of[0]), made(Not, f.Of[1])), at)
	case Ever:
		for later := at; later < enough; later++ {
			if one(later) {
				return true
			}
		}
		return false
	case Always:
		for later := at; later < enough; later++ {
			if !one(later) {
				return false
			}
		}
	}
	return true
}

// holds asks Holds of what may be.
func holds(t *testing.T, w Word, f *Formula) []bool {
	t.Helper()
	l, err := Holds(w, f)
	if err != nil || len(l) != len(w.Ahead)+len(w.Round) {
		t.Fatalf("%v, %s: %s, %s", w, show(f), bits(l), wrong(err))
	}
	return l
}

func TestDrawnHolds(t *testing.T) {
	d := draw(101)
	told := make([][2]int, Always+1)
	for range 4000 {
		w, f := d.word(4, 5), d.formula(1+d.below(3))
		for at, is := range holds(t, w, f) {
			if is != says(w, f, at) {
				t.Fatalf("%v, %s: %t at %d", w, show(f), is, at)
			}
			if is {
				told[f.Kind][1]++
			} else {
				told[f.Kind][0]++
			}
		}
	}
	for kind := Not; kind <= Always; kind++ {
		if min(told[kind][0], told[kind][1]) < 100 {
			t.Errorf("the draw is too poor: kind %d, %v", kind, told[kind])
		}
	}
}

// What holds until, ever, always is told by now and the next time; Release by Until; a round may be turned, and gone twice.
func TestDrawnLaws(t *testing.T) {
	d := draw(102)
	for range 2000 {
		w, f, g := d.word(20, 20), d.formula(3), d.formula(3)
		for _, c := range []struct {
			what      string
			one, same *Formula
		}{
			{"until", made(Until, f, g), made(Or, g, made(And, f, made(Next, made(Until, f, g))))},
			{"release", made(Release, f, g), made(And, g, made(Or, f, made(Next, made(Release, f, g))))},
			{"ever", made(Ever, f), made(Or, f, made(Next, made(Ever, f)))},
			{"always", made(Always, f), made(And, f, made(Next, made(Always, f)))},
			{"release by until", made(Release, f, g), made(Not, made(Until, made(Not, f), made(Not, g)))},
			{"ever by until", made(Ever, f), made(Until, made(True), f)},
			{"always by ever", made(Always, f), made(Not, made(Ever, made(Not, f)))},
		} {
			if one, same := holds(t, w, c.one), holds(t, w, c.same); !slices.Equal(one, same) {
				t.Fatalf("%s: %v, %s, %s: %s and %s", c.what, w, show(f), show(g), bits(one), bits(same))
			}
		}
		l, n := holds(t, w, f), len(w.Ahead)
		turned := Word{slices.Concat(w.Ahead, w.Round[:1]), slices.Concat(w.Round[1:], w.Round[:1])}
		if other := holds(t, turned, f); !slices.Equal(other, append(slices.Clone(l), l[n])) {
			t.Fatalf("turned: %v, %s: %s and %s", w, show(f), bits(l), bits(other))
		}
		twice := Word{w.Ahead, slices.Concat(w.Round, w.Round)}
		if other := holds(t, twice, f); !slices.Equal(other, slices.Concat(l, l[n:])) {
			t.Fatalf("twice: %v, %s: %s and %s", w, show(f), bits(l), bits(other))
		}
	}
}

// without is Push by the document's words: one rule at a time, from without to within.
func without(f *Formula) *Formula {
	not := func(f *Formula) *Formula { return made(Not, f) }
	switch f.Kind {
	case Atom, True:
		return f
	case Ever:
		return without(made(Until, made(True), f.Of[0]))
	case Always:
		return without(made(Release, not(made(True)), f.Of[0]))
	case Next:
		return made(Next, without(f.Of[0]))
	case And, Or, Until, Release:
		return made(f.Kind, without(f.Of[0]), without(f.Of[1]))
	}
	g := f.Of[0]
	switch g.Kind {
	case And:
		return without(made(Or, not(g.Of[0]), not(g.Of[1])))
	case Or:
		return without(made(And, not(g.Of[0]), not(g.Of[1])))
	case Until:
		return without(made(Release, not(g.Of[0]), not(g.Of[1])))
	case Release:
		return without(made(Until, not(g.Of[0]), not(g.Of[1])))
	case Next:
		return without(made(Next, not(g.Of[0])))
	case Not:
		return without(g.Of[0])
	case Ever:
		return without(not(made(Until, made(True), g.Of[0])))
	case Always:
		return without(not(made(Release, not(made(True)), g.Of[0])))
	}
	return f
}

// isPushed says whether Not stands ahead of Atom and True alone, and there are no Ever and Always.
func isPushed(f *Formula) bool {
	if f.Kind == Ever || f.Kind == Always || f.Kind == Not && f.Of[0].Kind != Atom && f.Of[0].Kind != True {
		return false
	}
	return !slices.ContainsFunc(f.Of, func(part *Formula) bool { return !isPushed(part) })
}

func TestDrawnPush(t *testing.T) {
	d := draw(103)
	for range 4000 {
		w, f := d.word(3, 4), d.formula(1+d.below(4))
		g, err := Push(f)
		if err != nil || show(g) != show(without(f)) || !isPushed(g) {
			t.Fatalf("%s: %s, %s", show(f), show(g), wrong(err))
		}
		for at, is := range holds(t, w, f) {
			if is != says(w, g, at) {
				t.Fatalf("%v, %s: %t at %d, but %s", w, show(f), is, at, show(g))
			}
		}
		if again, err := Push(g); Right(g) == nil && (err != nil || show(again) != show(g)) {
			t.Fatalf("%s: %s, %s", show(g), show(again), wrong(err))
		}
	}
}

// Text writes what may be, and that can be read again.
func TestDrawnText(t *testing.T) {
	d := draw(104)
	for range 4000 {
		f := d.formula(d.below(5))
		if text := Text(f); text != show(f) || !reflect.DeepEqual(read(t, text), f) {
			t.Fatalf("%q, not %q", text, show(f))
		}
	}
}

// wild may be anything: parts that are nil, or too many, kinds and names that there are not; it may stand within itself.
func (d *draw) wild() *Formula {
	all := make([]*Formula, 1+d.below(12))
	for i := range all {
		all[i] = made(True)
	}
	some := func(least int) *Formula {
		switch {
		case d.below(60) == 0:
			return nil
		case d.below(60) == 0:
			return all[d.below(len(all))]
		}
		return all[min(least+d.below(2), len(all)-1)]
	}
	for i, f := range all {
		f.Kind = Atom + d.below(10)
		if i == len(all)-1 || f.Kind == Atom {
			f.Kind, f.Name = Atom, "a"
		}
		if d.below(60) == 0 {
			f.Kind = d.below(14) - 2
		}
		if d.below(60) == 0 {
			f.Name = []string{"", "A", "b", "set", "x y"}[d.below(5)]
		}
		many := 0
		if f.Kind >= Atom && f.Kind <= Always {
			many = []int{Not: 1, And: 2, Or: 2, Next: 1, Until: 2, Release: 2, Ever: 1, Always: 1}[f.Kind]
		}
		if d.below(60) == 0 {
			many = d.below(4)
		}
		for range many {
			f.Of = append(f.Of, some(i+1))
		}
	}
	return all[0]
}

// right is Right by the document's words: parts lie on a pile, the next one uppermost.
func right(f *Formula) error {
	type part struct {
		f    *Formula
		deep int
	}
	many := 0
	for pile := []part{{f, 0}}; len(pile) > 0; many++ {
		p := pile[len(pile)-1]
		pile = pile[:len(pile)-1]
		switch {
		case p.f == nil:
			return api.ErrMissing
		case p.deep > 19:
			return api.ErrLimit
		}
		want, ok := map[int]int{Atom: 0, True: 0, Not: 1, Next: 1, Ever: 1, Always: 1, And: 2, Or: 2, Until: 2, Release: 2}[p.f.Kind]
		switch {
		case !ok || len(p.f.Of) != want || p.f.Kind != Atom && p.f.Name != "":
			return api.ErrArg
		case p.f.Kind == Atom && !slices.Contains([]string{"a", "b"}, p.f.Name):
			return api.ErrName
		}
		for _, within := range slices.Backward(p.f.Of) {
			pile = append(pile, part{within, p.deep + 1})
		}
	}
	if many > 100 {
		return api.ErrLimit
	}
	return nil
}

// Whatever is handed in, each call ends, none panics, and all say what Right says.
func TestDrawnWild(t *testing.T) {
	d := draw(105)
	told := map[api.Errno]int{}
	for range 20000 {
		f, w := d.wild(), d.word(3, 3)
		want := right(f)
		told[api.Tell(want)]++
		l, holdsErr := Holds(w, f)
		g, pushErr := Push(f)
		for what, err := range map[string]error{"Right": Right(f), "Holds": holdsErr, "Push": pushErr} {
			if !reflect.DeepEqual(err, want) {
				t.Fatalf("%s: %s, not %s", what, wrong(err), wrong(want))
			}
		}
		if (l == nil) != (want != nil) || (g == nil) != (want != nil) || (Text(f) == "") != (want != nil) {
			t.Fatalf("%s: %v, %s, %q", wrong(want), l, show(g), Text(f))
		}
	}
	for _, what := range []api.Errno{api.OK, api.ErrMissing, api.ErrLimit, api.ErrArg, api.ErrName} {
		if told[what] < 100 {
			t.Errorf("the draw is too poor: %v", told)
		}
	}
}

// Rules that hold everywhere

// roomy has the same in lists with room behind, where something stands.
func roomy[T any](l []T, behind T) []T {
	return append(append(make([]T, 0, len(l)+1), l...), behind)[:len(l)]
}

func roomyWord(w Word) Word {
	fill := func(l [][]string) [][]string {
		l = slices.Clone(l)
		for at := range l {
			l[at] = roomy(l[at], "rest")
		}
		return roomy(l, []string{"rest"})
	}
	return Word{fill(w.Ahead), fill(w.Round)}
}

func roomyFormula(f, behind *Formula) *Formula {
	g := *f
	g.Of = slices.Clone(f.Of)
	for i, part := range g.Of {
		g.Of[i] = roomyFormula(part, behind)
	}
	g.Of = roomy(g.Of, behind)
	return &g
}

// whole is all lists of a word, with what stands behind their lengths.
func whole(w Word) [][][]string {
	var all [][][]string
	for _, l := range [][][]string{w.Ahead, w.Round} {
		l = slices.Clone(l[:cap(l)])
		for at := range l {
			l[at] = slices.Clone(l[at][:cap(l[at])])
		}
		all = append(all, l)
	}
	return all
}

// each goes through all parts of a formula, by their places, from within to without.
func each(f *Formula, found func(*Formula)) {
	for _, part := range f.Of {
		each(part, found)
	}
	found(f)
}

// seen is all parts of a formula as they are, with what stands behind their lists' lengths.
func seen(f *Formula) []Formula {
	var all []Formula
	each(f, func(part *Formula) {
		all = append(all, Formula{part.Kind, part.Name, slices.Clone(part.Of[:cap(part.Of)])})
	})
	return all
}

func samePart(f, g Formula) bool {
	return f.Kind == g.Kind && f.Name == g.Name && slices.Equal(f.Of, g.Of)
}

// Nothing that is handed in is written into, nor what stands behind a list's length.
func TestNothingIsWrittenInto(t *testing.T) {
	d, behind := draw(106), atom("rest")
	for range 500 {
		w, f := roomyWord(d.word(4, 4)), roomyFormula(d.formula(4), behind)
		times, all := whole(w), seen(f)
		Check(w)
		Right(f)
		Text(f)
		Holds(w, f)
		g, _ := Push(f)
		each(g, func(part *Formula) {
			part.Kind, part.Name = 99, "spoilt"
			clear(part.Of[:cap(part.Of)])
		})
		if !reflect.DeepEqual(whole(w), times) || !slices.EqualFunc(seen(f), all, samePart) {
			t.Fatalf("what was handed in is written into")
		}
	}
}

// What Push makes is fresh: no part and no list of it stands in two places, or in what was handed in, though one part of that does.
func TestAnswersAreFresh(t *testing.T) {
	d := draw(107)
	for range 500 {
		f := d.formula(4)
		f = made(Until, f, f)
		parts, places := map[*Formula]bool{}, map[**Formula]bool{}
		each(f, func(part *Formula) {
			parts[part] = true
			for i := range part.Of {
				places[&part.Of[i]] = true
			}
		})
		g, err := Push(f)
		if err != nil {
			t.Fatalf("%s: %s", show(f), wrong(err))
		}
		each(g, func(part *Formula) {
			if parts[part] {
				t.Fatalf("%s: %s stands in two places", show(f), show(part))
			}
			parts[part] = true
			l := part.Of[:cap(part.Of)]
			for i := range l {
				if places[&l[i]] {
					t.Fatalf("%s: the list of %s is another one's", show(f), show(part))
				}
				places[&l[i]] = true
			}
		})
	}
}

// What is answered hangs on the arguments alone, whatever was asked ahead, and done with the answers.
func TestAskedAgain(t *testing.T) {
	w, f := word("a", "-, b"), read(t, "!G (a | F !b)")
	for range 3 {
		l, _ := Holds(w, f)
		g, _ := Push(f)
		if bits(l) != "000" || Text(f) != "!G (a | F !b)" || Text(g) != "(true U (!a & (!true R b)))" {
			t.Fatalf("%s, %s, %s", bits(l), Text(f), Text(g))
		}
		l = l[:cap(l)]
		for k := range l {
			l[k] = true
		}
		each(g, func(part *Formula) { part.Kind = Always })
	}
}
