package lasso

import (
	"errors"
	"reflect"
	"slices"
	"strconv"
	"strings"
	"testing"

	"signalcabin/api"
)

// wrong writes an error: its number, and its place, if it has one.
func wrong(err error) string {
	s := strconv.Itoa(int(api.Tell(err)))
	var at *api.At
	if errors.As(err, &at) {
		s += " at " + strconv.Itoa(at.Place)
	}
	return s
}

// row is names at times: "a b, -, c" are three times, at the second one nothing is true; "" are none.
func row(text string) [][]string {
	var l [][]string
	if text == "" {
		return l
	}
	for _, one := range strings.Split(text, ",") {
		l = append(l, strings.Fields(strings.ReplaceAll(one, "-", "")))
	}
	return l
}

func word(ahead, round string) Word { return Word{row(ahead), row(round)} }

// long is a word of so many times ahead, and in its round: nothing is true.
func long(ahead, round int) Word { return Word{make([][]string, ahead), make([][]string, round)} }

func atom(name string) *Formula { return &Formula{Kind: Atom, Name: name} }

// read reads a formula as Text writes it.
func read(t *testing.T, text string) *Formula {
	t.Helper()
	f, rest := readOne(t, text)
	if rest != "" {
		t.Fatalf("%q: %q is left", text, rest)
	}
	return f
}

func readOne(t *testing.T, text string) (*Formula, string) {
	t.Helper()
	for kind, sign := range map[int]string{Not: "!", Next: "X ", Ever: "F ", Always: "G "} {
		if rest, ok := strings.CutPrefix(text, sign); ok {
			f, rest := readOne(t, rest)
			return made(kind, f), rest
		}
	}
	if rest, ok := strings.CutPrefix(text, "("); ok {
		f, rest := readOne(t, rest)
		for kind, sign := range map[int]string{And: " & ", Or: " | ", Until: " U ", Release: " R "} {
			if rest, ok := strings.CutPrefix(rest, sign); ok {
				g, rest := readOne(t, rest)
				if !strings.HasPrefix(rest, ")") {
					t.Fatalf("%q: no )", text)
				}
				return made(kind, f, g), rest[1:]
			}
		}
		t.Fatalf("%q: no sign", text)
	}
	end := strings.IndexAny(text+")", " )")
	if text[:end] == "true" {
		return made(True), text[end:]
	}
	return atom(text[:end]), text[end:]
}

// show writes a formula, though it is too great or too deep for Text.
func show(f *Formula) string {
	if f == nil {
		return "nil"
	}
	var of []string
	for _, part := range f.Of {
		of = append(of, show(part))
	}
	switch f.Kind {
	case Atom:
		return f.Name
	case True:
		return "true"
	case Not:
		return "!" + of[0]
	case And:
		return "(" + of[0] + " & " + of[1] + ")"
	case Or:
		return "(" + of[0] + " | " + of[1] + ")"
	case Next:
		return "X " + of[0]
	case Until:
		return "(" + of[0] + " U " + of[1] + ")"
	case Release:
		return "(" + of[0] + " R " + of[1] + ")"
	case Ever:
		return "F " + of[0]
	case Always:
		return "G " + of[0]
	}
	return "?"
}

// bits writes bools by 0 and 1.
func bits(l []bool) string {
	s := ""
	for _, is := range l {
		if is {
			s += "1"
		} else {
			s += "0"
		}
	}
	return s
}

// sized has so many parts, and is as flat as can be.
func sized(many int) *Formula {
	switch many {
	case 1:
		return made(True)
	case 2:
		return made(Not, made(True))
	}
	left := (many - 1) / 2
	return made(And, sized(left), sized(many-1-left))
}

// around is a formula with so many Nots around it.
func around(f *Formula, many int) *Formula {
	for range many {
		f = made(Not, f)
	}
	return f
}

// doubled stands twice within And, that twice within another one, and so on: so many levels.
func doubled(f *Formula, levels int) *Formula {
	for range levels {
		f = made(And, f, f)
	}
	return f
}

// 10.1: Check

type wrongWord struct {
	w    Word
	want error
}

func wrongWords() map[string]wrongWord {
	late := long(59, 1)
	late.Round[0] = []string{"a", "b", ""}
	return map[string]wrongWord{
		"nothing":                          {Word{}, api.ErrLimit},
		"no round":                         {word("a, b", ""), api.ErrLimit},
		"no round, but a list":             {Word{nil, [][]string{}}, api.ErrLimit},
		"no round, and 60 ahead":           {long(60, 0), api.ErrLimit},
		"61 in the round":                  {long(0, 61), api.ErrLimit},
		"60 in the round, one ahead":       {long(1, 60), api.ErrLimit},
		"one in the round, 60 ahead":       {long(60, 1), api.ErrLimit},
		"31 and 30":                        {long(31, 30), api.ErrLimit},
		"far too many":                     {long(1000, 1000), api.ErrLimit},
		"a great letter ahead":             {word("A", "a"), api.ErrName},
		"a great letter in the round":      {word("a", "A"), api.ErrName},
		"the second one of a time":         {word("a, b C", "a"), api.ErrName},
		"the last one of all":              {late, api.ErrName},
		"an empty name":                    {Word{nil, [][]string{{""}}}, api.ErrName},
		"a digit first":                    {word("", "1a"), api.ErrName},
		"_ first":                          {word("", "_a"), api.ErrName},
		"nine bytes":                       {word("", "abcdefghi"), api.ErrName},
		"a word of programs":               {word("", "a, input"), api.ErrName},
		"a blank within":                   {Word{nil, [][]string{{"a b"}}}, api.ErrName},
		"the limit ahead of a name":        {word("A", ""), api.ErrLimit},
		"too many, and a name that isn't":  {Word{row("A"), make([][]string, 60)}, api.ErrLimit},
		"too many, and one at their end":   {Word{make([][]string, 60), row("A")}, api.ErrLimit},
		"a name that isn't behind nothing": {word("-, -", "-, -, set"), api.ErrName},
	}
}

func TestCheckWrong(t *testing.T) {
	for what, c := range wrongWords() {
		if err := Check(c.w); !reflect.DeepEqual(err, c.want) {
			t.Errorf("%s: %s, not %s", what, wrong(err), wrong(c.want))
		}
	}
}

func TestCheckRight(t *testing.T) {
	for what, w := range map[string]Word{
		"one time":                 long(0, 1),
		"one time, one ahead":      long(1, 1),
		"60 in the round":          long(0, 60),
		"59 ahead":                 long(59, 1),
		"30 and 30":                long(30, 30),
		"the document's":           word("a", "-, b"),
		"names of all kinds":       word("a, z, a_, a9, abcdefgh", "inputs, true, x, u, f"),
		"a name twice at one time": word("a a", "b a b"),
		"very many names":          {nil, [][]string{slices.Repeat([]string{"a", "b"}, 1000)}},
	} {
		if err := Check(w); err != nil {
			t.Errorf("%s: %s", what, wrong(err))
		}
	}
}

// 10.1: Right

type wrongFormula struct {
	f    *Formula
	want error
}

func wrongFormulas() map[string]wrongFormula {
	yes, none, bad := made(True), atom(""), made(0)
	named := func(kind int, name string, of ...*Formula) *Formula { return &Formula{kind, name, of} }
	round := made(Not, nil)
	round.Of[0] = round
	tree := made(Until, nil, nil)
	tree.Of[0], tree.Of[1] = tree, tree
	right := made(And, yes, nil)
	right.Of[1] = right
	all := map[string]wrongFormula{
		"nil":                                  {nil, api.ErrMissing},
		"a part is nil":                        {made(Not, nil), api.ErrMissing},
		"the second part is nil":               {made(And, yes, nil), api.ErrMissing},
		"a part deep within is nil":            {around(made(Or, yes, made(Next, nil)), 10), api.ErrMissing},
		"nil where nothing may be":             {around(nil, 20), api.ErrMissing},
		"20 stand around":                      {around(yes, 20), api.ErrLimit},
		"20 around, and wrong":                 {around(bad, 20), api.ErrLimit},
		"20 around, and no name":               {around(none, 20), api.ErrLimit},
		"20 around, in the second part":        {made(And, yes, around(yes, 19)), api.ErrLimit},
		"20 around, and many of them":          {doubled(yes, 20), api.ErrLimit},
		"far too deep":                         {around(yes, 9999), api.ErrLimit},
		"it goes round":                        {round, api.ErrLimit},
		"it goes round twice":                  {tree, api.ErrLimit},
		"it goes round by its second part":     {right, api.ErrLimit},
		"kind 0":                               {bad, api.ErrArg},
		"kind 11":                              {made(11), api.ErrArg},
		"kind 11 with a part":                  {made(11, yes), api.ErrArg},
		"kind -1":                              {made(-1), api.ErrArg},
		"a great kind":                         {made(1 << 40), api.ErrArg},
		"a small kind":                         {made(-1 << 63), api.ErrArg},
		"a wrong kind within":                  {made(Always, made(Or, yes, bad)), api.ErrArg},
		"no kind, and a part that isn't":       {made(0, nil), api.ErrArg},
		"no name, and a part":                  {named(Atom, "", yes), api.ErrArg},
		"no name":                              {none, api.ErrName},
		"a great letter":                       {atom("A"), api.ErrName},
		"nine bytes":                           {atom("abcdefghi"), api.ErrName},
		"a word of programs":                   {atom("coil"), api.ErrName},
		"a blank behind":                       {atom("a "), api.ErrName},
		"no name within":                       {made(Until, atom("a"), made(Next, atom("1"))), api.ErrName},
		"no name, 19 around":                   {around(none, 19), api.ErrName},
		"the outer one first":                  {named(Not, "a", nil), api.ErrArg},
		"the outer one's name first":           {named(Not, "a", none), api.ErrArg},
		"the left one first: missing":          {made(And, nil, none), api.ErrMissing},
		"the left one first: no name":          {made(And, none, nil), api.ErrName},
		"the left one first: wrong":            {made(Or, bad, none), api.ErrArg},
		"all within the left one first":        {made(Or, around(none, 5), bad), api.ErrName},
		"the left one is too deep":             {made(Release, around(yes, 19), bad), api.ErrLimit},
		"ahead of one that is too deep":        {made(Release, bad, around(yes, 19)), api.ErrArg},
		"101 parts":                            {sized(101), api.ErrLimit},
		"102 parts":                            {made(Always, sized(101)), api.ErrLimit},
		"101 parts, one in two places":         {made(And, made(Or, sized(16), sized(16)), doubled(sized(16), 2)), api.ErrLimit},
		"101 parts, one in four places":        {around(doubled(sized(24), 2), 2), api.ErrLimit},
		"127 parts of seven":                   {doubled(yes, 6), api.ErrLimit},
		"a million parts of twenty":            {doubled(yes, 19), api.ErrLimit},
		"101 parts, and the last one no name":  {made(And, sized(99), none), api.ErrName},
		"101 parts, and the last one wrong":    {made(And, sized(99), bad), api.ErrArg},
		"101 parts, and the last one missing":  {made(And, sized(100), nil), api.ErrMissing},
		"101 parts, and the first one no name": {made(And, none, sized(99)), api.ErrName},
		"a million parts, the last no name":    {made(And, doubled(yes, 18), made(And, doubled(yes, 17), none)), api.ErrName},
	}
	for kind := Atom; kind <= Always; kind++ {
		what := "kind " + strconv.Itoa(kind)
		for n := range 4 {
			if n != []int{Not: 1, And: 2, Or: 2, Next: 1, Until: 2, Release: 2, Ever: 1, Always: 1}[kind] {
				f := made(kind, slices.Repeat([]*Formula{yes}, n)...)
				if kind == Atom {
					f.Name = "a"
				}
				all[what+" of "+strconv.Itoa(n)] = wrongFormula{f, api.ErrArg}
			}
		}
	}
	for kind, n := range []int{True: 0, Not: 1, And: 2, Or: 2, Next: 1, Until: 2, Release: 2, Ever: 1, Always: 1} {
		if kind >= True {
			of := slices.Repeat([]*Formula{yes}, n)
			all["kind "+strconv.Itoa(kind)+" with a name"] = wrongFormula{named(kind, "a", of...), api.ErrArg}
			all["kind "+strconv.Itoa(kind)+" with no name, but bytes"] = wrongFormula{named(kind, "A", of...), api.ErrArg}
		}
	}
	return all
}

func TestRightWrong(t *testing.T) {
	for what, c := range wrongFormulas() {
		if err := Right(c.f); !reflect.DeepEqual(err, c.want) {
			t.Errorf("%s: %s, not %s", what, wrong(err), wrong(c.want))
		}
	}
}

func TestRightRight(t *testing.T) {
	yes := made(True)
	all := map[string]*Formula{
		"19 stand around":             around(yes, 19),
		"19 around a name":            around(atom("a"), 19),
		"19 around, by second parts":  made(And, yes, around(yes, 18)),
		"100 parts":                   sized(100),
		"99 parts, and one around":    made(Ever, sized(99)),
		"100 parts, one in 2 places":  made(Not, doubled(sized(24), 2)),
		"100 parts, all of one":       made(And, made(Or, doubled(yes, 4), doubled(yes, 4)), made(And, made(Or, doubled(yes, 3), made(Or, yes, yes)), made(Next, doubled(yes, 3)))),
		"63 parts of six":             doubled(yes, 5),
		"a list without anything":     {Kind: True, Of: []*Formula{}},
		"a name like a sign":          atom("true"),
		"names of eight bytes, and 1": made(Until, atom("abcdefgh"), atom("u")),
	}
	for kind, n := range []int{True: 0, Not: 1, And: 2, Or: 2, Next: 1, Until: 2, Release: 2, Ever: 1, Always: 1} {
		if kind >= True {
			all["kind "+strconv.Itoa(kind)] = made(kind, slices.Repeat([]*Formula{atom("a")}, n)...)
		}
	}
	for what, f := range all {
		if err := Right(f); err != nil {
			t.Errorf("%s: %s", what, wrong(err))
		}
	}
}

// The kinds are as the document numbers them.
func TestKinds(t *testing.T) {
	for i, kind := range []int{Atom, True, Not, And, Or, Next, Until, Release, Ever, Always} {
		if kind != i+1 {
			t.Errorf("kind %d is %d", i+1, kind)
		}
	}
}

// 10.2: Holds

func TestHolds(t *testing.T) {
	for _, c := range []struct{ what, ahead, round, formula, want string }{
		{"the document's", "a", "-, b", "G F b", "111"},
		{"a name", "a, -, a b", "b, a", "a", "10101"},
		{"another one", "a, -, a b", "b, a", "b", "00110"},
		{"one that is nowhere", "a, b", "a", "c", "000"},
		{"one that begins so", "aa, a_", "a", "a", "001"},
		{"a name told twice", "a a", "b a b", "a", "11"},
		{"true", "-", "-, a", "true", "111"},
		{"a name that is written so", "-, a", "-", "true", "111"},
		{"not", "a, -", "a, b", "!a", "0101"},
		{"not true", "-, a", "-", "!true", "000"},
		{"both", "a, b, a b, -", "a b", "(a & b)", "00101"},
		{"one", "a, b, a b, -", "a", "(a | b)", "11101"},
		{"next", "a, -, a", "-, -", "X a", "01000"},
		{"next, into the round", "-, -", "a, -", "X a", "0101"},
		{"next, round again", "a, -", "-, a, -", "X a", "00100"},
		{"next of next", "-", "a, -, -", "X X a", "0010"},
		{"next in a round of one", "-", "a", "X a", "11"},
		{"next in a round of one, not", "a", "-", "X a", "00"},
		{"next never goes back ahead", "a, -", "-", "X a", "000"},
		{"until", "a, a, b, a, -", "-", "(a U b)", "111000"},
		{"until: now is enough", "b, -", "b", "(a U b)", "101"},
		{"until: both now", "a b", "-", "(a U b)", "10"},
		{"until: never comes", "a, a", "a, a", "(a U b)", "0000"},
		{"until: round again", "-, a", "a, b, -, a", "(a U b)", "011101"},
		{"until: only round again", "-", "b, a, a", "(a U b)", "0111"},
		{"until: in the round, but not all the way", "a", "-, b, a", "(a U b)", "0010"},
		{"until: the first isn't asked when the second is", "a, b", "-", "(a U b)", "110"},
		{"until: a gap", "a, -, a, b", "-", "(a U b)", "00110"},
		{"until of what is so", "-, b", "-", "(true U b)", "110"},
		{"until of what isn't", "a, b", "-", "(!true U b)", "010"},
		{"release", "b, b, a b, -, b", "-", "(a R b)", "111000"},
		{"release: for ever", "b, -, b", "b, b", "(a R b)", "00111"},
		{"release: the first alone isn't enough", "b, a", "b", "(a R b)", "001"},
		{"release: both now", "a b, -", "-", "(a R b)", "100"},
		{"release: round again", "b", "a b, -, b", "(a R b)", "1101"},
		{"release: round again, and not", "b", "b, a, b", "(a R b)", "0000"},
		{"ever", "-, a, -", "-, -", "F a", "11000"},
		{"ever: in the round", "-, -", "-, a, -", "F a", "11111"},
		{"ever: now alone", "a", "-", "F a", "10"},
		{"always", "-, a, a", "a, a", "G a", "01111"},
		{"always: not all round", "a, a", "a, -, a", "G a", "00000"},
		{"always: ahead doesn't count later", "a, -", "a", "G a", "001"},
		{"at last always", "a, -", "a", "F G a", "111"},
		{"at last always, not", "a", "a, -", "F G a", "000"},
		{"again and again", "a, a", "-", "G F a", "000"},
		{"each is answered", "a, -, b", "a, b", "G (!a | F b)", "11111"},
		{"each is answered, but the last", "a, b, a", "-", "G (!a | F b)", "0001"},
		{"until of until", "a, b, a, a, b, c", "-", "((a U b) U c)", "1111110"},
		{"until of until, the other way", "a, a, b, b, c", "-", "(a U (b U c))", "111110"},
		{"next within always", "-", "a, b", "G (!a | X b)", "111"},
		{"always within next", "-, a", "a", "X G a", "111"},
		{"a round of one", "", "a", "(G a & F a)", "1"},
		{"a round of one, of nothing", "", "-", "(G a | F a)", "0"},
	} {
		l, err := Holds(word(c.ahead, c.round), read(t, c.formula))
		if err != nil || bits(l) != c.want {
			t.Errorf("%s: %s, %s, not %s", c.what, bits(l), wrong(err), c.want)
		}
	}
}

// A name that is written like True is a name.
func TestHoldsNamedTrue(t *testing.T) {
	if l, err := Holds(word("true, -", "a"), atom("true")); err != nil || bits(l) != "100" {
		t.Errorf("%s, %s", bits(l), wrong(err))
	}
}

// What Check says comes ahead of what Right says; nothing is told beside an error.
func TestHoldsWrong(t *testing.T) {
	w, f := word("a", "-, b"), made(Ever, atom("b"))
	for what, c := range wrongWords() {
		for _, g := range []*Formula{f, nil, atom("A"), made(0), around(f, 20)} {
			if l, err := Holds(c.w, g); l != nil || !reflect.DeepEqual(err, c.want) {
				t.Errorf("%s: %v, %s, not %s", what, l, wrong(err), wrong(c.want))
			}
		}
	}
	for what, c := range wrongFormulas() {
		if l, err := Holds(w, c.f); l != nil || !reflect.DeepEqual(err, c.want) {
			t.Errorf("%s: %v, %s, not %s", what, l, wrong(err), wrong(c.want))
		}
	}
}

// The greatest words: what is far away is told at each time.
func TestHoldsGreatest(t *testing.T) {
	for _, ahead := range []int{0, 1, 30, 59} {
		w := long(ahead, 60-ahead)
		for _, l := range [][][]string{w.Ahead, w.Round} {
			for at := range l {
				l[at] = []string{"a"}
			}
		}
		w.Round[len(w.Round)-1] = []string{"a", "b"}
		for formula, want := range map[string]string{
			"(a U b)": "1", "G a": "1", "F b": "1", "G F b": "1", "(b R a)": "1", "(c R a)": "1", "(a U c)": "0", "F c": "0",
		} {
			if l, err := Holds(w, read(t, formula)); err != nil || bits(l) != strings.Repeat(want, 60) {
				t.Errorf("%d ahead, %s: %s, %s", ahead, formula, bits(l), wrong(err))
			}
		}
	}
}

// only is 60 times, of which it is so at one.
func only(at int) string { return strings.Repeat("0", at) + "1" + strings.Repeat("0", 59-at) }

// What is nested as deep as can be ends at once.
func TestHoldsDeepest(t *testing.T) {
	w := long(30, 30)
	w.Round[29] = []string{"a"}
	for kind, want := range map[int]string{
		Not: strings.Repeat("1", 59) + "0", And: only(59), Or: only(59), Next: only(40),
		Until: only(59), Release: only(59), Ever: strings.Repeat("1", 60), Always: strings.Repeat("0", 60),
	} {
		f := atom("a")
		for range 19 {
			f = &Formula{Kind: kind, Of: []*Formula{atom("a"), f}[2-parts[kind]:]}
		}
		if l, err := Holds(w, f); err != nil || bits(l) != want {
			t.Errorf("kind %d: %s, %s", kind, bits(l), wrong(err))
		}
	}
}

// 10.3: Text

func TestText(t *testing.T) {
	a, b, yes := atom("a"), atom("b_1"), made(True)
	for _, c := range []struct {
		f    *Formula
		want string
	}{
		{a, "a"},
		{b, "b_1"},
		{yes, "true"},
		{atom("true"), "true"},
		{made(Not, a), "!a"},
		{made(And, a, b), "(a & b_1)"},
		{made(Or, a, b), "(a | b_1)"},
		{made(Next, a), "X a"},
		{made(Until, a, b), "(a U b_1)"},
		{made(Release, a, b), "(a R b_1)"},
		{made(Ever, a), "F a"},
		{made(Always, a), "G a"},
		{made(Not, made(Not, yes)), "!!true"},
		{made(Always, made(Ever, b)), "G F b_1"},
		{made(Not, made(Next, made(Not, a))), "!X !a"},
		{made(And, made(And, a, b), made(Or, b, a)), "((a & b_1) & (b_1 | a))"},
		{made(Not, made(Until, made(Ever, a), made(Release, yes, a))), "!(F a U (true R a))"},
		{around(a, 19), strings.Repeat("!", 19) + "a"},
		{doubled(a, 2), "((a & a) & (a & a))"},
	} {
		if text := Text(c.f); text != c.want {
			t.Errorf("%q, not %q", text, c.want)
		}
	}
	if text := Text(sized(100)); text != show(sized(100)) {
		t.Errorf("100 parts: %q", text)
	}
}

func TestTextWrong(t *testing.T) {
	for what, c := range wrongFormulas() {
		if text := Text(c.f); text != "" {
			t.Errorf("%s: %q", what, text)
		}
	}
}

// 10.3: Push

func TestPush(t *testing.T) {
	for _, c := range []struct{ formula, want string }{
		{"a", "a"},
		{"true", "true"},
		{"!a", "!a"},
		{"!true", "!true"},
		{"!!a", "a"},
		{"!!true", "true"},
		{"!!!a", "!a"},
		{"!!!!a", "a"},
		{"(a & b)", "(a & b)"},
		{"(a | b)", "(a | b)"},
		{"X a", "X a"},
		{"(a U b)", "(a U b)"},
		{"(a R b)", "(a R b)"},
		{"F a", "(true U a)"},
		{"G a", "(!true R a)"},
		{"!(a & b)", "(!a | !b)"},
		{"!(a | b)", "(!a & !b)"},
		{"!X a", "X !a"},
		{"!(a U b)", "(!a R !b)"},
		{"!(a R b)", "(!a U !b)"},
		{"!F a", "(!true R !a)"},
		{"!G a", "(true U !a)"},
		{"!!(a & b)", "(a & b)"},
		{"!!F a", "(true U a)"},
		{"!(!a & !!b)", "(a | !b)"},
		{"!(!a U b)", "(a R !b)"},
		{"!X !a", "X a"},
		{"G F a", "(!true R (true U a))"},
		{"F G a", "(true U (!true R a))"},
		{"!G F a", "(true U (!true R !a))"},
		{"!F G !a", "(!true R (true U a))"},
		{"G !a", "(!true R !a)"},
		{"F !G a", "(true U (true U !a))"},
		{"!(true U true)", "(!true R !true)"},
		{"!(a & (b | X c))", "(!a | (!b & X !c))"},
		{"(a & !(b | !c))", "(a & (!b & c))"},
		{"(!(a U b) U !(c R d))", "((!a R !b) U (!c U !d))"},
		{"G (!a | F b)", "(!true R (!a | (true U b)))"},
		{"!G (!a | F b)", "(true U (a & (!true R !b)))"},
	} {
		f, err := Push(read(t, c.formula))
		if err != nil || Text(f) != c.want || show(f) != c.want {
			t.Errorf("%s: %s, %s, not %s", c.formula, show(f), wrong(err), c.want)
		}
	}
}

// What is made may be greater, and deeper, than what may be handed in.
func TestPushGreatest(t *testing.T) {
	f := atom("a")
	for range 19 {
		f = made(Always, f)
	}
	want := strings.Repeat("(!true R ", 19) + "a" + strings.Repeat(")", 19)
	if g, err := Push(f); err != nil || show(g) != want || Text(g) != "" {
		t.Errorf("%s, %s", show(g), wrong(err))
	}
	many := made(And, doubled(made(Always, atom("a")), 4), doubled(made(Always, atom("b")), 4))
	if g, err := Push(many); err != nil || show(g) != strings.NewReplacer("G a", "(!true R a)", "G b", "(!true R b)").Replace(show(many)) || api.Tell(Right(g)) != api.ErrLimit {
		t.Errorf("%s, %s", show(g), wrong(err))
	}
}

func TestPushWrong(t *testing.T) {
	for what, c := range wrongFormulas() {
		if f, err := Push(c.f); f != nil || !reflect.DeepEqual(err, c.want) {
			t.Errorf("%s: %s, %s, not %s", what, show(f), wrong(err), wrong(c.want))
		}
	}
}
