package scan

import (
	"errors"
	"math"
	"reflect"
	"slices"
	"strconv"
	"strings"
	"testing"

	"signalcabin/api"
	"signalcabin/expr"
	"signalcabin/ladder"
)

// wrong writes an error: its number, and its place, if it has one.
func wrong(err error) string {
	s := strconv.Itoa(int(api.Tell(err)))
	var at *api.At
	if errors.As(err, &at) {
		s += " at " + strconv.Itoa(at.Place)
	}
	return s
}

func parsed(t *testing.T, lines ...string) ladder.Program {
	t.Helper()
	p, err := ladder.Parse(strings.Join(lines, "\n"))
	if err != nil {
		t.Fatalf("Parse of %q: %s", lines, wrong(err))
	}
	return p
}

// bits reads a list of bools: a 0 or 1 for each.
func bits(text string) []bool {
	l := make([]bool, len(text))
	for i := range l {
		l[i] = text[i] == '1'
	}
	return l
}

// inputs reads scans with blanks between; - is one of no inputs.
func inputs(text string) [][]bool {
	var l [][]bool
	for _, word := range strings.Fields(text) {
		l = append(l, bits(strings.TrimPrefix(word, "-")))
	}
	return l
}

// shown writes a state: a 0 or 1 for each name, with how far it is behind it, unless it is at 0.
func shown(s State) string {
	if len(s.Is) != len(s.Count) {
		return "not as many of both"
	}
	text := ""
	for i, is := range s.Is {
		if is {
			text += "1"
		} else {
			text += "0"
		}
		if s.Count[i] != 0 {
			text += "@" + strconv.Itoa(s.Count[i])
		}
	}
	return text
}

func shownAll(l []State) string {
	var words []string
	for _, s := range l {
		words = append(words, shown(s))
	}
	return strings.Join(words, " ")
}

func isZero(s State) bool { return s.Is == nil && s.Count == nil }

// played is the states that Play answers; it says too whether Step, scan by scan, and Do tell the same.
func played(t *testing.T, p ladder.Program, in [][]bool) []State {
	t.Helper()
	l, err := Play(p, in)
	if err != nil || len(l) != len(in) {
		t.Fatalf("Play of %q: %d states, %s", ladder.Text(p), len(l), wrong(err))
	}
	s := Start(p)
	for i, one := range in {
		next, err := Step(p, s, one)
		if err != nil || !reflect.DeepEqual(next, l[i]) {
			t.Fatalf("Step %d of %q: %s, %s, not %s", i, ladder.Text(p), shown(next), wrong(err), shown(l[i]))
		}
		if done := Do(p, s, one); !reflect.DeepEqual(done, next) {
			t.Fatalf("Do %d of %q: %s, not %s", i, ladder.Text(p), shown(done), shown(next))
		}
		s = next
	}
	return l
}

// sample has each kind of name, inputs first and last, and each kind of rung.
const sample = "input a\ncoil m\ntimer t 3\ncounter c 2\ncoil k\ninput b\n" +
	"m = a\nset k = b & !m\nreset k = ^a\nrun t = a\ncount c = ^b\nzero c = t"

// Start

func TestStart(t *testing.T) {
	p := parsed(t, sample)
	s := Start(p)
	if !slices.Equal(s.Is, make([]bool, 6)) || !slices.Equal(s.Count, make([]int, 6)) {
		t.Errorf("Start: %v", s)
	}
	if s := Start(ladder.Program{}); len(s.Is) != 0 || len(s.Count) != 0 {
		t.Errorf("Start of nothing: %v", s)
	}
	s.Is[0], s.Count[0] = true, 7
	if again := Start(p); again.Is[0] || again.Count[0] != 0 {
		t.Error("Start keeps what it answered")
	}
}

// Step, and its errors

func TestStepSaysWhatCheckSays(t *testing.T) {
	yes := expr.Const(true)
	m := []ladder.Name{{Name: "m", Kind: ladder.Coil}}
	for i, c := range []struct {
		p    ladder.Program
		want string
	}{
		{ladder.Program{Names: make([]ladder.Name, 13)}, "4"},
		{ladder.Program{Rungs: make([]ladder.Rung, 41)}, "4"},
		{ladder.Program{Names: []ladder.Name{{Name: "M", Kind: ladder.Coil}}}, "5 at 0"},
		{ladder.Program{Names: []ladder.Name{{Name: "m", Kind: 5}}}, "1 at 0"},
		{ladder.Program{Names: []ladder.Name{{Name: "t", Kind: ladder.Timer, Count: 8}}}, "2 at 0"},
		{ladder.Program{Names: append(m[:1:1], m[0])}, "9 at 1"},
		{ladder.Program{Names: m, Rungs: []ladder.Rung{{Kind: ladder.Sets, Name: "m", If: yes}, {Kind: ladder.Sets, Name: "m"}}}, "1 at 2"},
		{ladder.Program{Names: m, Rungs: []ladder.Rung{{Kind: ladder.Run, Name: "m", If: yes}}}, "1 at 1"},
		{ladder.Program{Names: m, Rungs: []ladder.Rung{{Kind: ladder.Sets, Name: "q", If: yes}}}, "7 at 1"},
		{ladder.Program{Names: m, Rungs: []ladder.Rung{{Kind: ladder.Sets, Name: "m", If: expr.Rise("q")}}}, "7 at 1"},
	} {
		// With as many of all as there should be, and (what is told behind it) with too many inputs and no state.
		for _, s := range []State{Start(c.p), {}} {
			next, err := Step(c.p, s, make([]bool, len(c.p.Names)-len(s.Is)))
			if got := wrong(err); got != c.want || got != wrong(ladder.Check(c.p)) || !isZero(next) {
				t.Errorf("program %d: %v, %s, not %s", i, next, got, c.want)
			}
		}
	}
}

func TestStepErrRange(t *testing.T) {
	p := parsed(t, sample)
	for _, c := range []struct {
		is, counts, in int
		want           string
	}{
		{6, 6, 2, "0"},
		{6, 6, 0, "2"},
		{6, 6, 1, "2"},
		{6, 6, 3, "2"},
		{6, 6, 6, "2"},
		{5, 6, 2, "2"},
		{7, 6, 2, "2"},
		{6, 5, 2, "2"},
		{6, 7, 2, "2"},
		{5, 5, 2, "2"},
		{7, 7, 2, "2"},
		{0, 6, 2, "2"},
		{6, 0, 2, "2"},
		{0, 0, 0, "2"},
	} {
		next, err := Step(p, State{make([]bool, c.is), make([]int, c.counts)}, make([]bool, c.in))
		if got := wrong(err); got != c.want || isZero(next) != (err != nil) {
			t.Errorf("%d, %d, %d: %v, %s, not %s", c.is, c.counts, c.in, next, got, c.want)
		}
	}
	if _, err := Step(p, State{}, nil); wrong(err) != "2" {
		t.Errorf("of nothing: %s", wrong(err))
	}
	if _, err := Step(ladder.Program{}, State{}, bits("1")); wrong(err) != "2" {
		t.Errorf("an input of no program: %s", wrong(err))
	}
	if next, err := Step(ladder.Program{}, State{}, nil); err != nil || len(next.Is) != 0 || len(next.Count) != 0 {
		t.Errorf("a scan of no program: %v, %s", next, wrong(err))
	}
}

// What a scan does

func TestScans(t *testing.T) {
	for _, c := range []struct {
		what, program, in, want string
	}{
		{"inputs in order of their numbers, beside others",
			"coil m\ninput b\ntimer t 2\ninput a\ncounter c 1\ninput z",
			"000 100 010 001 110 111",
			"000000 010000 000100 000001 010100 010101"},
		{"inputs are not in order of bytes", "input z\ninput a", "10 01", "10 01"},
		{"no inputs", "coil m\nm = !m", "- - -", "1 0 1"},
		{"no rungs: what is not asked for stays", "input a\ncoil m", "1 0", "10 00"},

		{"Sets", "input a\ncoil m\nm = a", "1 0 0 1 1 0", "11 00 00 11 11 00"},
		{"Set", "input a\ncoil m\nset m = a", "0 1 0 1 0", "00 11 01 11 01"},
		{"Reset", "input a\ninput b\ncoil m\nset m = a\nreset m = b", "10 00 01 00 01 10 11 00", "101 001 010 000 010 101 110 000"},
		{"Reset ahead of Set", "input a\ninput b\ncoil m\nreset m = b\nset m = a", "01 11 00 01", "010 111 001 010"},
		{"Sets is true and not by its expression alone", "input a\ncoil m\nset m = 1\nm = a", "0 1 0", "00 11 00"},

		{"Run up to Count, and not beyond", "input a\ntimer t 3\nrun t = a", "1 1 1 1 1 0 1 0", "10@1 10@2 11@3 11@3 11@3 00 10@1 00"},
		{"Run of 1", "input a\ntimer t 1\nrun t = a", "1 1 0 1", "11@1 11@1 00 11@1"},
		{"Run of the most", "timer t 7\nrun t = 1", "- - - - - - - - -", "0@1 0@2 0@3 0@4 0@5 0@6 1@7 1@7 1@7"},
		{"Run begins again at 0", "input a\ntimer t 2\nrun t = a", "1 0 1 0 1 1", "10@1 00 10@1 00 10@1 11@2"},
		{"the document's example", "input a\ntimer t 2\nrun t = a", "1 1 0", "10@1 11@2 00"},
		{"Run twice in a scan", "input a\ntimer t 3\nrun t = a\nrun t = a", "1 1 1 0", "10@2 11@3 11@3 00"},
		{"Run, and not, in a scan", "input a\ntimer t 2\nrun t = a\nrun t = !a", "1 0", "10 00@1"},

		{"Count stays while it isn't so", "input a\ncounter c 2\ncount c = a", "0 1 0 0 1 0 1 0", "00 10@1 00@1 00@1 11@2 01@2 11@2 01@2"},
		{"Count of 1", "input a\ncounter c 1\ncount c = a", "0 1 1 0", "00 11@1 11@1 01@1"},
		{"Count of the most", "counter c 7\ncount c = 1", "- - - - - - - - -", "0@1 0@2 0@3 0@4 0@5 0@6 1@7 1@7 1@7"},
		{"Count twice in a scan", "input a\ncounter c 3\ncount c = a\ncount c = a", "1 0 1 1", "10@2 00@2 11@3 11@3"},
		{"Zero", "input a\ninput b\ncounter c 2\ncount c = a\nzero c = b", "10 10 00 01 00 10 11 10", "100@1 101@2 001@2 010 000 100@1 110 100@1"},
		{"Zero ahead of Count", "input a\ninput b\ncounter c 1\nzero c = b\ncount c = a", "10 11 01 00", "101@1 111@1 010 000"},
		{"Zero of itself", "counter c 2\ncount c = 1\nzero c = c", "- - - -", "0@1 0 0@1 0"},

		{"rungs see what those ahead did", "input a\ncoil m\ncoil k\nm = a\nk = m", "1 0 1", "111 000 111"},
		{"rungs see what was, of those behind", "input a\ncoil m\ncoil k\nk = m\nm = a", "1 0 1 1", "110 001 110 111"},
		{"the last rung of a coil tells it", "input a\ncoil m\ncoil k\nm = 1\nk = m\nm = a", "0 1", "001 111"},
		{"timers and counters are seen at once", "timer t 1\ncounter c 1\ncoil m\nrun t = 1\ncount c = t\nm = t & c\nzero c = m", "- -", "1@101 1@101"},
		{"inputs are seen as they are now", "coil m\ninput a\nm = !a", "1 0 1", "01 10 01"},

		{"edges of inputs", "input a\ncoil u\ncoil d\nu = ^a\nd = ~a", "0 1 1 0 0 1", "000 110 100 001 000 110"},
		{"edges of a coil: as it is by now against the state ahead of the scan", "input a\ncoil m\ncoil u\ncoil d\nm = a\nu = ^m\nd = ~m", "1 1 0 0", "1110 1100 0001 0000"},
		{"edges of a coil that comes behind are never", "input a\ncoil m\ncoil u\ncoil d\nu = ^m\nd = ~m\nm = a", "1 1 0 0", "1100 1100 0000 0000"},
		{"a coil that goes and comes in a scan has no edge behind it", "coil m\ncoil d\ncoil u\nm = 0\nset d = ~m\nm = 1\nu = ^m", "- - -", "101 110 110"},
		{"edges of timers and counters", "timer t 2\ncounter c 1\ncoil m\nrun t = !c\ncount c = ~t\nm = ^t | ^c", "- - - -", "0@100 1@201 1@200 1@200"},
		{"edges of timers that begin again", "input a\ntimer t 1\ncounter c 3\nrun t = a\ncount c = ~t", "1 0 0 1 0 1 0", "11@10 000@1 000@1 11@10@1 000@2 11@10@2 001@3"},
	} {
		p := parsed(t, c.program)
		if got := shownAll(played(t, p, inputs(c.in))); got != c.want {
			t.Errorf("%s: %s, not %s", c.what, got, c.want)
		}
	}
}

// What names were is what the state says that is handed in, not what the last call did.
func TestWasIsTheStateHandedIn(t *testing.T) {
	p := parsed(t, "input a\ncoil u\ncoil d\nu = ^a\nd = ~a")
	on, _ := Step(p, Start(p), bits("1"))
	for range 2 {
		for _, c := range []struct {
			from State
			in   string
			want string
		}{
			{Start(p), "1", "110"},
			{on, "1", "100"},
			{on, "0", "001"},
			{Start(p), "0", "000"},
		} {
			if got, err := Step(p, c.from, bits(c.in)); err != nil || shown(got) != c.want {
				t.Errorf("from %s by %s: %s, not %s", shown(c.from), c.in, shown(got), c.want)
			}
		}
	}
}

// Play, and its errors

func TestPlayLimit(t *testing.T) {
	p := parsed(t, "counter c 7\ncount c = 1")
	if l, err := Play(p, make([][]bool, 1000)); err != nil || len(l) != 1000 || shown(l[0]) != "0@1" || shown(l[999]) != "1@7" {
		t.Errorf("1000 scans: %d states, %s", len(l), wrong(err))
	}
	bad := ladder.Program{Names: make([]ladder.Name, 1)}
	wide := parsed(t, "input a")
	for _, p := range []ladder.Program{p, {}, bad, wide} {
		if l, err := Play(p, make([][]bool, 1001)); wrong(err) != "4" || l != nil {
			t.Errorf("1001 scans of %v: %d states, %s", p, len(l), wrong(err))
		}
	}
}

func TestPlayErrors(t *testing.T) {
	good := parsed(t, sample)
	bad := ladder.Program{Names: good.Names, Rungs: append(good.Rungs[:2:2], ladder.Rung{Kind: ladder.Sets, Name: "t", If: expr.Bit("a")})}
	for _, c := range []struct {
		p        ladder.Program
		in, want string
	}{
		{good, "", "0"},
		{good, "00", "0"},
		{good, "0", "2"},
		{good, "-", "2"},
		{good, "000", "2"},
		{good, "00 11 1 00", "2"},
		{good, "00 11 10 000", "2"},
		{bad, "", "1 at 8"},
		{bad, "00", "1 at 8"},
		{bad, "0", "1 at 8"},
		{bad, "00 000", "1 at 8"},
	} {
		l, err := Play(c.p, inputs(c.in))
		if got := wrong(err); got != c.want || err != nil && l != nil || err == nil && len(l) != len(inputs(c.in)) {
			t.Errorf("%q: %d states, %s, not %s", c.in, len(l), got, c.want)
		}
	}
	if l, err := Play(good, [][]bool{nil}); wrong(err) != "2" || l != nil {
		t.Errorf("a scan that is nil: %d states, %s", len(l), wrong(err))
	}
	if l, err := Play(ladder.Program{}, nil); err != nil || len(l) != 0 {
		t.Errorf("nothing: %d states, %s", len(l), wrong(err))
	}
	if l, err := Play(ladder.Program{}, make([][]bool, 3)); err != nil || len(l) != 3 {
		t.Errorf("3 scans of no program: %d states, %s", len(l), wrong(err))
	}
}

func TestPlayOfSample(t *testing.T) {
	p := parsed(t, sample)
	got := shownAll(played(t, p, inputs("01 00 11 10 11 10 01")))
	// Of each state: a, m, t, c, k, b.
	want := "000" + "0@1" + "11" +
		" 000" + "0@1" + "10" +
		" 110@1" + "1@2" + "01" +
		" 110@2" + "1@2" + "00" +
		" 111@3" + "0" + "01" +
		" 111@3" + "0" + "00" +
		" 000" + "0@1" + "11"
	if got != want {
		t.Errorf("%s, not %s", got, want)
	}
}

// Drawn programs

// draw gives numbers that look drawn, the same each time.
type draw uint64

func (d *draw) below(n int) int {
	*d = *d*6364136223846793005 + 1442695040888963407
	return int(uint64(*d>>33) % uint64(n))
}

func (d *draw) expression(deep int) expr.Expr {
	name := []string{"a", "m", "t", "c", "k", "b"}[d.below(6)]
	if deep == 0 {
		return []expr.Expr{expr.Const(d.below(2) == 0), expr.Bit(name), expr.Rise(name), expr.Fall(name)}[d.below(4)]
	}
	x, y := d.expression(deep-1), d.expression(deep-1)
	return []expr.Expr{x, expr.Not{Of: x}, expr.And{x, y}, expr.Or{x, y}}[d.below(4)]
}

func (d *draw) program() ladder.Program {
	p := ladder.Program{Names: []ladder.Name{
		{Name: "a", Kind: ladder.Input}, {Name: "m", Kind: ladder.Coil},
		{Name: "t", Kind: ladder.Timer, Count: 1 + d.below(7)}, {Name: "c", Kind: ladder.Counter, Count: 1 + d.below(7)},
		{Name: "k", Kind: ladder.Coil}, {Name: "b", Kind: ladder.Input},
	}}
	for range d.below(8) {
		kind := ladder.Sets + d.below(6)
		name := []string{ladder.Sets: "m", ladder.Set: "k", ladder.Reset: "k", ladder.Run: "t", ladder.Count: "c", ladder.Zero: "c"}[kind]
		p.Rungs = append(p.Rungs, ladder.Rung{Kind: kind, Name: name, If: d.expression(d.below(4))})
	}
	return p
}

func (d *draw) inputs(scans, many int) [][]bool {
	l := make([][]bool, scans)
	for i := range l {
		for range many {
			l[i] = append(l[i], d.below(2) == 0)
		}
	}
	return l
}

// Timers and counters are never beyond their counts, and true just at them; the other names are at 0.
func TestNeverBeyondCount(t *testing.T) {
	d := draw(7)
	for range 500 {
		p := d.program()
		in := d.inputs(d.below(30), 2)
		for i, s := range played(t, p, in) {
			if s.Is[0] != in[i][0] || s.Is[5] != in[i][1] {
				t.Fatalf("%q, scan %d: inputs are %s", ladder.Text(p), i, shown(s))
			}
			for n, name := range p.Names {
				if s.Count[n] < 0 || s.Count[n] > name.Count || name.Count > 0 && s.Is[n] != (s.Count[n] == name.Count) {
					t.Fatalf("%q, scan %d: %s is %s", ladder.Text(p), i, name.Name, shown(s))
				}
			}
		}
	}
}

// Rules that hold everywhere

func TestArgumentsStay(t *testing.T) {
	p := parsed(t, "input a\ncoil m\ntimer t 2\ncounter c 2\nset m = 1\nrun t = 1\ncount c = 1")
	is, counts, in := bits("0000111"), []int{0, 0, 0, 0, 5, 5, 5}, bits("111")
	s := State{is[:4], counts[:4]}
	next, err := Step(p, s, in[:1])
	if err != nil || shown(next) != "110@10@1" {
		t.Fatalf("Step: %s, %s", shown(next), wrong(err))
	}
	Do(p, s, in[:1])
	if !slices.Equal(is, bits("0000111")) || !slices.Equal(counts, []int{0, 0, 0, 0, 5, 5, 5}) || !slices.Equal(in, bits("111")) {
		t.Errorf("Step wrote into what it was given: %v, %v, %v", is, counts, in)
	}
	scans := [][]bool{in[:1], in[1:2], in[2:3]}
	if _, err := Play(p, scans[:2]); err != nil || !slices.Equal(in, bits("111")) || len(scans[2]) != 1 {
		t.Errorf("Play wrote into what it was given: %v", scans)
	}
	text := ladder.Text(p)
	if _, err := Step(p, State{is, counts}, in); wrong(err) != "2" || !slices.Equal(is, bits("0000111")) || ladder.Text(p) != text {
		t.Error("an error, and yet something is changed")
	}
}

// A state that is handed out is written over: neither another one nor a later answer changes.
func TestAnswersShareNothing(t *testing.T) {
	p := parsed(t, "input a\ncoil m\ncounter c 7\nset m = a\ncount c = a")
	in := inputs("1 0 1 1")
	l := played(t, p, in)
	want := shownAll(l[1:])
	over := func(s State) {
		for i := range s.Is {
			s.Is[i], s.Count[i] = !s.Is[i], 99
		}
		_, _ = append(s.Is, true), append(s.Count, 99)
	}
	over(l[0])
	if got := shownAll(l[1:]); got != want {
		t.Errorf("states of one Play share: %s, not %s", got, want)
	}
	first := Start(p)
	next, _ := Step(p, first, in[0])
	over(first)
	in[0][0] = false
	if got := shown(next); got != "110@1" {
		t.Errorf("Step kept what it was given: %s", got)
	}
	again, _ := Step(p, Start(p), bits("1"))
	over(next)
	if got := shown(again); got != "110@1" {
		t.Errorf("two answers share: %s", got)
	}
	none := parsed(t, "coil m")
	was := Start(none)
	still, _ := Step(none, was, nil)
	over(was)
	if got := shown(still); got != "0" {
		t.Errorf("a scan that does nothing shares: %s", got)
	}
}

// Of such programs and states nothing is said, but each call ends, and none panics.
func TestNothingPanics(t *testing.T) {
	yes := expr.Const(true)
	names := []ladder.Name{{Name: "t", Kind: ladder.Timer, Count: 2}, {Name: "c", Kind: ladder.Counter, Count: 2}, {Name: "m", Kind: ladder.Coil}}
	var rungs []ladder.Rung
	for kind := -1; kind < 9; kind++ {
		for _, name := range []string{"t", "c", "m", "q", ""} {
			for _, e := range []expr.Expr{nil, yes, expr.Rise("q"), expr.Not{}, expr.And{nil, expr.Or{}}, (*expr.Bit)(nil)} {
				rungs = append(rungs, ladder.Rung{Kind: kind, Name: name, If: e})
			}
		}
	}
	programs := []ladder.Program{
		{}, {Rungs: rungs}, {Names: names, Rungs: rungs}, {Names: append(names[:3:3], names...), Rungs: rungs},
		{Names: make([]ladder.Name, 100)}, {Names: []ladder.Name{{Name: "t", Kind: ladder.Timer, Count: math.MinInt}}, Rungs: rungs},
	}
	for _, r := range rungs {
		programs = append(programs, ladder.Program{Names: names, Rungs: []ladder.Rung{r}})
	}
	for _, p := range programs {
		far := Start(p)
		for i := range far.Count {
			far.Is[i], far.Count[i] = true, math.MaxInt-i
		}
		for _, s := range []State{{}, Start(p), far, {Is: make([]bool, 1)}, {Count: make([]int, 3)}} {
			for _, in := range [][]bool{nil, {}, {true}, make([]bool, 100)} {
				Step(p, s, in)
				Do(p, s, in)
				Play(p, [][]bool{in, nil, in})
			}
		}
	}
}

func TestDoOfWhatStepDoesNotTake(t *testing.T) {
	p := parsed(t, sample)
	for _, s := range []State{
		Do(p, Start(p), bits("1")), Do(p, Start(p), bits("111")), Do(p, State{}, bits("11")),
		Do(p, State{Is: make([]bool, 6)}, bits("11")), Do(p, State{Count: make([]int, 6)}, bits("11")),
	} {
		if !isZero(s) {
			t.Errorf("Do: %v", s)
		}
	}
}

// The greatest programs end soon: as many names, rungs and scans as may be.
func TestGreatestProgram(t *testing.T) {
	lines := []string{"input a", "coil m"}
	for i := range api.MaxNames - 2 {
		lines = append(lines, "counter c"+strconv.Itoa(i)+" 7")
	}
	for i := range api.MaxRungs {
		lines = append(lines, "count c"+strconv.Itoa(i%(api.MaxNames-2))+" = "+strings.Repeat("(^a | ~m) & ", 20)+"1")
	}
	p := parsed(t, lines...)
	in := make([][]bool, maxScans)
	for i := range in {
		in[i] = []bool{i%4 == 3}
	}
	l := played(t, p, in)
	if got, want := shown(l[3]), "10"+strings.Repeat("0@4", api.MaxNames-2); got != want {
		t.Errorf("%s, not %s", got, want)
	}
	if got, want := shown(l[maxScans-1]), "10"+strings.Repeat("1@7", api.MaxNames-2); got != want {
		t.Errorf("%s, not %s", got, want)
	}
}

// An expression may be deeper in a program than Parse takes one.
func TestDeepExpression(t *testing.T) {
	var e expr.Expr = expr.Rise("a")
	for range 1<<15 - 1 {
		e = expr.Not{Of: expr.Not{Of: e}}
	}
	p := ladder.Program{
		Names: []ladder.Name{{Name: "a", Kind: ladder.Input}, {Name: "m", Kind: ladder.Coil}},
		Rungs: []ladder.Rung{{Kind: ladder.Sets, Name: "m", If: e}},
	}
	if got := shownAll(played(t, p, inputs("0 1 1 0 1"))); got != "00 11 10 00 11" {
		t.Errorf("%s", got)
	}
}
