package gate

import (
	"math"
	"math/bits"
	"reflect"
	"slices"
	"strconv"
	"testing"

	"signalcabin/api"
	"signalcabin/expr"
)

// many is so many clauses that are each this one.
func many(n int, literals ...int) [][]int {
	l := make([][]int, n)
	for i := range l {
		l[i] = slices.Clone(literals)
	}
	return l
}

// values writes a 0 or 1 for each.
func values(l []bool) string {
	text := ""
	for _, is := range l {
		if is {
			text += "1"
		} else {
			text += "0"
		}
	}
	return text
}

func holds(c Clauses, value []bool) bool {
	for _, clause := range c.All {
		if !slices.ContainsFunc(clause, func(l int) bool { return value[max(l, -l)-1] == (l > 0) }) {
			return false
		}
	}
	return true
}

// firstOf goes through all values, true ahead of false, the last variable soonest.
func firstOf(c Clauses) ([]bool, error) {
	value := make([]bool, c.Vars)
	for n := range 1 << c.Vars {
		for i := range value {
			value[i] = n>>(c.Vars-1-i)&1 == 0
		}
		if holds(c, value) {
			return value, nil
		}
	}
	return nil, api.ErrNone
}

// drawnClauses has so many clauses, of up to so many literals.
func drawnClauses(d *draw, vars, clauses, least, most int) Clauses {
	c := Clauses{Vars: vars}
	for range clauses {
		var l []int
		for range least + d.below(most-least+1) {
			literal := 1 + d.below(vars)
			if d.below(2) == 0 {
				literal = -literal
			}
			l = append(l, literal)
		}
		c.All = append(c.All, l)
	}
	return c
}

func solves(t *testing.T, what string, c Clauses) {
	t.Helper()
	want, none := firstOf(c)
	got, err := Solve(c)
	if !slices.Equal(got, want) || err != none {
		t.Errorf("Solve of %s is %s, %s, want %s, %s", what, values(got), wrong(err), values(want), wrong(none))
	}
}

// pigeons is that n + 1 of them are in n holes, no two in one: what can't be, and is hard to see by clauses.
func pigeons(n int) Clauses {
	in := func(pigeon, hole int) int { return pigeon*n + hole + 1 }
	c := Clauses{Vars: n * (n + 1)}
	for p := range n + 1 {
		var some []int
		for h := range n {
			some = append(some, in(p, h))
			for q := range p {
				c.All = append(c.All, []int{-in(p, h), -in(q, h)})
			}
		}
		c.All = append(c.All, some)
	}
	return c
}

// 7.2: Check

func TestCheck(t *testing.T) {
	for _, c := range []struct {
		what string
		c    Clauses
		want string
	}{
		{"nothing", Clauses{}, "0"},
		{"-1 variables", Clauses{Vars: -1}, "4"},
		{"the fewest variables", Clauses{Vars: math.MinInt}, "4"},
		{"1000 variables", Clauses{Vars: 1000, All: [][]int{{1000, -1000}}}, "0"},
		{"1001 variables", Clauses{Vars: 1001}, "4"},
		{"the most variables", Clauses{Vars: math.MaxInt}, "4"},
		{"3000 clauses", Clauses{Vars: 1, All: many(3000, 1)}, "0"},
		{"3001 clauses", Clauses{Vars: 1, All: many(3001, 1)}, "4"},
		{"3001 empty clauses", Clauses{All: many(3001)}, "4"},
		{"an empty clause", Clauses{All: [][]int{{}}}, "0"},
		{"no variable", Clauses{All: [][]int{{}, {1}}}, "2 at 1"},
		{"nought of no variable", Clauses{All: [][]int{{0}}}, "2 at 0"},
		{"all literals", Clauses{Vars: 3, All: [][]int{{-3, -2, -1, 1, 2, 3}, {3}, {-3}}}, "0"},
		{"nought", Clauses{Vars: 3, All: [][]int{{1}, {2, 0}}}, "2 at 1"},
		{"above", Clauses{Vars: 3, All: [][]int{{1}, {2}, {4}}}, "2 at 2"},
		{"below", Clauses{Vars: 3, All: [][]int{{-4, 1}}}, "2 at 0"},
		{"the last of many", Clauses{Vars: 3, All: [][]int{{1, 2, 3, -1, -2, -3, 1, 4}}}, "2 at 0"},
		{"the greatest", Clauses{Vars: 1000, All: [][]int{{math.MaxInt}}}, "2 at 0"},
		{"the least", Clauses{Vars: 1000, All: [][]int{{}, {math.MinInt}}}, "2 at 1"},
		{"the first of two", Clauses{Vars: 2, All: [][]int{{1}, {3}, {0}}}, "2 at 1"},
		{"the last clause", Clauses{Vars: 1, All: append(many(2999, 1), []int{2})}, "2 at 2999"},
		{"too many, and out of range", Clauses{Vars: 1, All: many(3001, 5)}, "4"},
		{"too many variables, and out of range", Clauses{Vars: 1001, All: many(1, 0)}, "4"},
		{"what can't hold", Clauses{Vars: 1, All: [][]int{{1}, {-1}}}, "0"},
	} {
		if got := wrong(Check(c.c)); got != c.want {
			t.Errorf("Check of %s: %s, want %s", c.what, got, c.want)
		}
		if c.want == "0" {
			continue
		}
		if got, err := Solve(c.c); wrong(err) != c.want || got != nil {
			t.Errorf("Solve of %s: %v, %s, want %s", c.what, got, wrong(err), c.want)
		}
	}
}

// 7.2: Solve

func TestSolve(t *testing.T) {
	for _, c := range []struct {
		vars int
		all  [][]int
		want string
		err  string
	}{
		{0, nil, "", "0"},
		{1, nil, "1", "0"},
		{4, nil, "1111", "0"},
		{4, [][]int{{-2}}, "1011", "0"},
		{2, [][]int{{-1, -2}}, "10", "0"},
		{2, [][]int{{-1, -2}, {-1, 2}}, "01", "0"},
		{3, [][]int{{-1, -2}, {-1, -3}, {2, 3}}, "011", "0"},
		{3, [][]int{{-3, -1}, {3, -2}}, "100", "0"},
		{3, [][]int{{-1, 3}, {-3, -1}}, "011", "0"},
		{3, [][]int{{-3}, {3, -2}, {2, -1}}, "000", "0"},
		{2, [][]int{{1, -1}, {2, -2}}, "11", "0"},
		{2, [][]int{{1, -1, -2}, {-2, -2, -2}}, "10", "0"},
		{3, [][]int{{-3, -3}, {3, 3, -1, -1}}, "010", "0"},
		{0, [][]int{{}}, "", "8"},
		{2, [][]int{{}}, "", "8"},
		{2, [][]int{{1, 2}, {}, {1}}, "", "8"},
		{1, [][]int{{1}, {-1}}, "", "8"},
		{1, [][]int{{1, 1}, {-1, -1}}, "", "8"},
		{2, [][]int{{1, 2}, {1, -2}, {-1, 2}, {-1, -2}}, "", "8"},
		{3, [][]int{{-1, 2}, {-2, 3}, {-3, -1}, {1, 2}, {-2, -3}}, "", "8"},
	} {
		got, err := Solve(Clauses{Vars: c.vars, All: c.all})
		if values(got) != c.want || len(got) != len(c.want) || wrong(err) != c.err {
			t.Errorf("Solve of %d, %v is %s, %s", c.vars, c.all, values(got), wrong(err))
		}
		if err != nil && (got != nil || err != api.ErrNone) {
			t.Errorf("Solve of %d, %v is %v, %v", c.vars, c.all, got, err)
		}
	}
}

func TestSolveOfDrawnClauses(t *testing.T) {
	d := draw(72)
	none := 0
	for range 6000 {
		vars := 1 + d.below(9)
		c := drawnClauses(&d, vars, d.below(6*vars), 1, 1+d.below(4))
		solves(t, shown(c), c)
		if _, err := Solve(c); err != nil {
			none++
		}
	}
	if none < 1000 || none > 5000 {
		t.Errorf("%d of 6000 are none", none)
	}
}

func TestSolveOf12VariablesIsNeverTooMuch(t *testing.T) {
	d := draw(73)
	for most := 3; most <= 16; most++ {
		for _, clauses := range []int{30, 60, 200, 800, 3000} {
			c := drawnClauses(&d, 12, clauses, most-1, most)
			solves(t, strconv.Itoa(clauses)+" clauses of "+strconv.Itoa(most), c)
		}
	}
	for _, vars := range []int{1, 5, 8, 11} {
		c := Clauses{Vars: 12, All: allWays(1, vars)}
		solves(t, "all ways", c)
		c.All = slices.Delete(c.All, len(c.All)/3, len(c.All)/3+1)
		solves(t, "all ways but one", c)
	}
	for range 20 {
		c := Clauses{Vars: 12}
		for range 11 + d.below(4) {
			c.All = append(c.All, odd(&d, 12, 3+d.below(5))...)
		}
		solves(t, shown(c), c)
	}
}

// allWays is the clauses of which each rules out one way that so many variables may be, the way that all are false first. None of them tells more than its own.
func allWays(first, vars int) [][]int {
	var all [][]int
	for n := range 1 << vars {
		var l []int
		for i := range vars {
			l = append(l, (first+i)*(1-2*(n>>i&1)))
		}
		all = append(all, l)
	}
	return all
}

// odd is clauses by which of some variables that are drawn an odd number is true, or an even one: what shows only when all of them are known.
func odd(d *draw, vars, some int) [][]int {
	drawn := map[int]bool{}
	for len(drawn) < some {
		drawn[1+d.below(vars)] = true
	}
	var names []int
	for v := range vars {
		if drawn[v+1] {
			names = append(names, v+1)
		}
	}
	wrong := d.below(2)
	var all [][]int
	for n, way := range allWays(1, some) {
		if bits.OnesCount(uint(n))%2 != wrong {
			continue
		}
		for i, l := range way {
			way[i] = names[i] * (l / max(l, -l))
		}
		all = append(all, way)
	}
	return all
}

// ofSixContacts is an expression of at most 6 names and edges, about as great as it may be.
func ofSixContacts(d *draw) expr.Expr {
	names := [][]string{{"a", "b", "c"}, {"a", "b"}, {"a", "b", "c", "d", "e", "f"}}[d.below(3)]
	for {
		var l []expr.Expr
		for size := 0; size < 260; {
			e := drawn(d, names, 4)
			if len(names) > 3 {
				e = withoutEdges(e)
			}
			if n := expr.Size(e); size+n < 295 {
				l = append(l, expr.Not{Of: e})
				size += n + 1
			}
		}
		e := expr.Expr(expr.And(l))
		if d.below(2) == 0 {
			e = expr.Or(l)
		}
		if expr.Size(e) <= 300 && len(l) > 1 {
			return e
		}
	}
}

func withoutEdges(e expr.Expr) expr.Expr {
	var l []expr.Expr
	switch x := e.(type) {
	case expr.Rise:
		return expr.Bit(string(x))
	case expr.Fall:
		return expr.Not{Of: expr.Bit(string(x))}
	case expr.Not:
		return expr.Not{Of: withoutEdges(x.Of)}
	case expr.And:
		l = x
	case expr.Or:
		l = x
	default:
		return e
	}
	made := make([]expr.Expr, len(l))
	for i, part := range l {
		made[i] = withoutEdges(part)
	}
	if _, ok := e.(expr.And); ok {
		return expr.And(made)
	}
	return expr.Or(made)
}

// firstOfExpression is the first values of an expression's clauses of which one more literal is true: its inputs, true ahead of false, and what follows from them.
func firstOfExpression(c Clauses, known, literal int) ([]bool, error) {
	for n := range 1 << known {
		bits := 0
		for i := range known {
			bits |= (1 - n>>(known-1-i)&1) << i
		}
		value := told(c, bits, known)
		if literal == 0 || value[max(literal, -literal)] > 0 == (literal > 0) {
			l := make([]bool, c.Vars)
			for i := range l {
				l[i] = value[i+1] > 0
			}
			return l, nil
		}
	}
	return nil, api.ErrNone
}

func TestSolveOfAnExpressionOfSixIsNeverTooMuch(t *testing.T) {
	d := draw(74)
	for range 12 {
		e := ofSixContacts(&d)
		c, own, err := Of(e)
		known := len(expr.Names(e)) + len(expr.Edges(e))
		if err != nil || known > 6 {
			t.Fatalf("Of %s: %s, with %d names and edges", expr.Text(e), wrong(err), known)
		}
		literals := []int{0, own, -own}
		for range 12 {
			v := 1 + d.below(c.Vars)
			literals = append(literals, v, -v)
		}
		for _, literal := range literals {
			want, none := firstOfExpression(c, known, literal)
			more := Clauses{Vars: c.Vars, All: slices.Clone(c.All)}
			if literal != 0 {
				more.All = slices.Insert(more.All, d.below(len(c.All)+1), []int{literal})
			}
			got, err := Solve(more)
			if !slices.Equal(got, want) || err != none {
				t.Fatalf("Solve of %s and %d: %s, %s, want %s, %s", expr.Text(e), literal, values(got), wrong(err), values(want), wrong(none))
			}
		}
	}
}

// solvedLate is Solve that has taken too long already as it begins.
func solvedLate(c Clauses) error {
	s := begin(c.Vars)
	s.looks = maxLooks + 1
	for _, clause := range c.All {
		if !s.take(clause) {
			return api.ErrNone
		}
	}
	return s.run()
}

func TestWhatIsNeverTooMuchHasNoBound(t *testing.T) {
	d := draw(75)
	for range 300 {
		e := drawn(&d, []string{"a", "b", "c"}, d.below(5))
		c, literal, err := Of(e)
		if err != nil {
			continue
		}
		for _, one := range []int{literal, -literal, 1 + d.below(c.Vars), -1 - d.below(c.Vars)} {
			more := Clauses{Vars: c.Vars, All: append(slices.Clone(c.All), []int{one})}
			_, want := Solve(more)
			if err := solvedLate(more); err != want {
				t.Fatalf("%s and %d: %s, want %s", expr.Text(e), one, wrong(err), wrong(want))
			}
		}
		vars := 1 + d.below(12)
		c = drawnClauses(&d, vars, d.below(6*vars), 1, 4)
		_, want := Solve(c)
		if err := solvedLate(c); err != want {
			t.Fatalf("%s: %s, want %s", shown(c), wrong(err), wrong(want))
		}
	}
	if err := solvedLate(Clauses{Vars: 14}); err != api.ErrLimit {
		t.Errorf("of 14 variables: %s", wrong(err))
	}
}

// from is 1000 values that are true from variable v on.
func from(v int) []bool {
	l := make([]bool, 1000)
	for i := range l {
		l[i] = i+1 >= v
	}
	return l
}

// What can't be stands behind 990 variables of which nothing is said: all that these may be must not be gone through.
func TestSolveOfWhatIsFarBehind(t *testing.T) {
	far := Clauses{Vars: 1000, All: allWays(991, 5)}
	if got, err := Solve(far); err != api.ErrNone || got != nil {
		t.Errorf("what can't be: %s", wrong(err))
	}
	last := len(far.All) - 1
	if got, err := Solve(Clauses{Vars: 1000, All: far.All[:last]}); err != nil || !slices.Equal(got, from(1)) {
		t.Errorf("what can be if all are true: %s, %s", values(got), wrong(err))
	}
	want := from(1)
	for v := 991; v <= 995; v++ {
		want[v-1] = false
	}
	if got, err := Solve(Clauses{Vars: 1000, All: far.All[1:]}); err != nil || !slices.Equal(got, want) {
		t.Errorf("what can be if five are false: %s, %s", values(got), wrong(err))
	}
}

func TestSolveOfAChain(t *testing.T) {
	chain := Clauses{Vars: 1000}
	for v := 1; v < 1000; v++ {
		chain.All = append(chain.All, []int{-v, v + 1})
	}
	if got, err := Solve(chain); err != nil || !slices.Equal(got, from(1)) {
		t.Errorf("a chain: %s, %s", values(got), wrong(err))
	}
	chain.All = append(chain.All, []int{-1000, -500})
	if got, err := Solve(chain); err != nil || !slices.Equal(got, from(501)) {
		t.Errorf("a chain that 500 breaks: %s, %s", values(got), wrong(err))
	}
	chain.All = append(chain.All, []int{1, 499})
	if got, err := Solve(chain); err != api.ErrNone || got != nil {
		t.Errorf("a chain that is broken: %s", wrong(err))
	}
}

func TestSolveOfTheGreatest(t *testing.T) {
	long := make([]int, 1000)
	want := make([]bool, 1000)
	for i := range long {
		long[i] = -i - 1
		want[i] = i < 999
	}
	if got, err := Solve(Clauses{Vars: 1000, All: many(3000, long...)}); err != nil || !slices.Equal(got, want) {
		t.Errorf("3000 clauses of 1000 literals: %s, %s", values(got), wrong(err))
	}
}

func TestSolveTakesTooLong(t *testing.T) {
	for n := 1; n < 7; n++ {
		if got, err := Solve(pigeons(n)); err != api.ErrNone || got != nil {
			t.Errorf("%d holes: %v, %s", n, got, wrong(err))
		}
	}
	got, err := Solve(pigeons(15))
	if err != api.ErrLimit || got != nil {
		t.Errorf("15 holes: %v, %v", got, err)
	}
	if _, again := Solve(pigeons(15)); again != err {
		t.Errorf("15 holes: %v, then %v", err, again)
	}
}

// withRoom is clauses of which each list has one more item behind its length; whole is all of that.
func withRoom(c Clauses) (_ Clauses, whole func() [][]int) {
	for i, clause := range c.All {
		c.All[i] = append(clause, 99)[:len(clause)]
	}
	n := len(c.All)
	all := append(c.All, []int{98})
	return Clauses{Vars: c.Vars, All: all[:n]}, func() [][]int {
		var l [][]int
		for _, clause := range all[:n] {
			l = append(l, slices.Clone(clause[:len(clause)+1]))
		}
		return append(l, slices.Clone(all[n]))
	}
}

func TestSolveLeavesItsClauses(t *testing.T) {
	d := draw(76)
	for range 200 {
		c, whole := withRoom(drawnClauses(&d, 6, 20, 2, 4))
		before := whole()
		first, err := Solve(c)
		Check(c)
		if !reflect.DeepEqual(whole(), before) {
			t.Fatalf("%v is %v then", before, whole())
		}
		want := values(first)
		for i := range first {
			first[i] = !first[i]
		}
		if again, errAgain := Solve(c); values(again) != want || errAgain != err {
			t.Fatalf("Solve is %s, then %s", want, values(again))
		}
	}
}

// 7.3

func TestSame(t *testing.T) {
	for _, c := range []struct {
		a, b string
		want bool
	}{
		{"a", "a", true},
		{"a", "b", false},
		{"a", "!a", false},
		{"a", "!!a", true},
		{"0", "0", true},
		{"0", "1", false},
		{"1", "0", false},
		{"1", "1", true},
		{"0", "!1", true},
		{"a | !a", "1", true},
		{"a & !a", "0", true},
		{"a & !a", "b & !b", true},
		{"a", "1", false},
		{"0", "a", false},
		{"a & b", "b & a", true},
		{"a & b", "a | b", false},
		{"a | b", "a & b", false},
		{"!(a & b)", "!a | !b", true},
		{"!(a | b)", "!a & !b", true},
		{"!(a | b)", "!a | !b", false},
		{"a & (b | c)", "a & b | a & c", true},
		{"a & (b | c)", "a & b | c", false},
		{"a & b | c", "a & (b | c)", false},
		{"a & !b | !a & b", "(a | b) & !(a & b)", true},
		{"a | a & b", "a", true},
		{"a", "a & b", false},
		{"a", "a | b", false},
		// what names are, and were
		{"^a", "^a", true},
		{"^a", "~a", false},
		{"^a", "a", false},
		{"^a", "a & ^a", true},
		{"^a", "!~a", false},
		{"^a & ~a", "0", true},
		{"^a | ~a", "1", false},
		{"^a | a", "a", true},
		{"^a & a", "a", false},
		{"~a | !a", "!a", true},
		{"^a", "^b", false},
		{"a & !^a", "a & !^a & !~a", true},
		{"a & ^b", "^b & a", true},
	} {
		got, err := Same(read(t, c.a), read(t, c.b))
		if got != c.want || err != nil {
			t.Errorf("Same of %s, %s is %v, %s", c.a, c.b, got, wrong(err))
		}
	}
}

func TestSameOfDrawnExpressions(t *testing.T) {
	d := draw(77)
	same := 0
	for range 4000 {
		names := []string{"a", "b"}
		a, b := drawn(&d, names, d.below(4)), drawn(&d, names, d.below(4))
		if expr.Size(a)+expr.Size(b) > 147 {
			continue
		}
		both := expr.And{a, b}
		want := true
		for bits := range 1 << (len(expr.Names(both)) + len(expr.Edges(both))) {
			is, was := inputs(both, bits)
			want = want && expr.Eval(a, is, was) == expr.Eval(b, is, was)
		}
		if want {
			same++
		}
		got, err := Same(a, b)
		if got != want || err != nil {
			t.Fatalf("Same of %s, %s is %v, %s", expr.Text(a), expr.Text(b), got, wrong(err))
		}
		if got, err = Same(a, expr.Tidy(a)); expr.Size(a) <= 73 && (!got || err != nil) {
			t.Fatalf("Same of %s, made tidy, is %v, %s", expr.Text(a), got, wrong(err))
		}
	}
	if same < 100 {
		t.Errorf("%d are the same", same)
	}
}

func TestSameOfMissing(t *testing.T) {
	for _, c := range [][2]expr.Expr{{nil, nil}, {nil, expr.Bit("a")}, {expr.Bit("a"), nil}, {nil, ofSize(400)}, {ofSize(400), nil}} {
		if got, err := Same(c[0], c[1]); got || err != api.ErrMissing {
			t.Errorf("Same of a missing one is %v, %v", got, err)
		}
	}
}

func TestSameOfGreatOnes(t *testing.T) {
	// `a & !b | !a & b` has 5 expressions, and each of the two twice.
	for _, n := range []int{1, 2, 60, 73} {
		if got, err := Same(ofSize(n), ofSize(147-n)); got || err != nil {
			t.Errorf("Same of sizes %d and %d: %v, %v", n, 147-n, got, err)
		}
		if got, err := Same(ofSize(n), ofSize(148-n)); got || err != api.ErrLimit {
			t.Errorf("Same of sizes %d and %d: %v, %v", n, 148-n, got, err)
		}
	}
	if got, err := Same(ofSize(73), ofSize(73)); !got || err != nil {
		t.Errorf("Same of size 73 and itself: %v, %v", got, err)
	}
	if got, err := Same(ofSize(74), ofSize(74)); got || err != api.ErrLimit {
		t.Errorf("Same of size 74 and itself: %v, %v", got, err)
	}
	if got, err := Same(ofSize(1), ofSize(1000)); got || err != api.ErrLimit {
		t.Errorf("Same of size 1000: %v, %v", got, err)
	}
}

func TestSameOfManyNames(t *testing.T) {
	var a, b expr.And
	var c, d expr.Or
	for i := range 22 {
		x, y := expr.Bit("x"+strconv.Itoa(i)), expr.Bit("y"+strconv.Itoa(i))
		a, c = append(a, expr.Or{x, y}), append(c, expr.And{x, y})
		b, d = append(expr.And{expr.Or{y, x}}, b...), append(expr.Or{expr.And{y, x}}, d...)
	}
	for _, pair := range [][2]expr.Expr{{a, b}, {c, d}} {
		if got, err := Same(pair[0], pair[1]); !got || err != nil {
			t.Errorf("Same of %s, turned round: %v, %s", expr.Text(pair[0]), got, wrong(err))
		}
	}
	if got, err := Same(a, d); got || err != nil {
		t.Errorf("Same of all and of one of 22: %v, %s", got, wrong(err))
	}
}
