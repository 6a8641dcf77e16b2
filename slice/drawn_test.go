package slice

import (
	"reflect"
	"slices"
	"strconv"
	"testing"

	"signalcabin/expr"
	"signalcabin/ladder"
	"signalcabin/machine"
	"signalcabin/prop"
	"signalcabin/scan"
)

// Held against what the document says, of drawn programs

// draw gives numbers that look drawn, the same each time.
type draw uint64

func (d *draw) below(n int) int {
	*d = *d*6364136223846793005 + 1442695040888963407
	return int(uint64(*d>>33) % uint64(n))
}

func (d *draw) expression(names []string, deep int) expr.Expr {
	name := names[d.below(len(names))]
	if deep == 0 {
		return []expr.Expr{expr.Const(d.below(2) == 0), expr.Bit(name), expr.Bit(name), expr.Rise(name), expr.Fall(name)}[d.below(5)]
	}
	x, y := d.expression(names, deep-1), d.expression(names, deep-1)
	return []expr.Expr{x, expr.Not{Of: x}, expr.And{x, y}, expr.Or{x, y}}[d.below(4)]
}

// program has an input, and up to so many names of any kinds besides, in any order: at most 2 inputs.
func (d *draw) program(most int) ladder.Program {
	p := ladder.Program{Names: []ladder.Name{{Name: "a", Kind: ladder.Input}}}
	for i := range 1 + d.below(most) {
		n := ladder.Name{Name: "n" + strconv.Itoa(i), Kind: ladder.Input + d.below(4)}
		if n.Kind == ladder.Input && len(p.Kind(ladder.Input)) == 2 {
			n.Kind = ladder.Coil
		}
		if n.Kind == ladder.Timer || n.Kind == ladder.Counter {
			n.Count = 1 + d.below(3)
		}
		p.Names = append(p.Names, n)
	}
	first := d.below(len(p.Names))
	p.Names[0], p.Names[first] = p.Names[first], p.Names[0]
	kinds := [][]int{ladder.Input: nil, ladder.Coil: {ladder.Sets, ladder.Set, ladder.Reset}, ladder.Timer: {ladder.Run}, ladder.Counter: {ladder.Count, ladder.Zero}}
	for range 1 + d.below(9) {
		n := p.Names[d.below(len(p.Names))]
		if l := kinds[n.Kind]; l != nil {
			p.Rungs = append(p.Rungs, ladder.Rung{Kind: l[d.below(len(l))], Name: n.Name, If: d.expression(namesOf(p), d.below(3))})
		}
	}
	return p
}

func namesOf(p ladder.Program) []string {
	var l []string
	for _, n := range p.Names {
		l = append(l, n.Name)
	}
	return l
}

// some are up to so many of a program's names, in any order, perhaps one twice.
func (d *draw) some(p ladder.Program, most int) []string {
	var l []string
	for range d.below(most + 1) {
		l = append(l, p.Names[d.below(len(p.Names))].Name)
	}
	return l
}

// inputs are so many scans' of a program.
func (d *draw) inputs(p ladder.Program, scans int) [][]bool {
	l := make([][]bool, scans)
	for k := range l {
		for range p.Kind(ladder.Input) {
			l[k] = append(l[k], d.below(2) == 0)
		}
	}
	return l
}

// fewest goes through all sets of names (bit k is name k): of those that have these, and what the rungs of theirs name, the one with the fewest.
func fewest(p ladder.Program, names []string) []int {
	least := []int(nil)
	for set := range 1 << len(p.Names) {
		has := func(name string) bool { return set>>p.Number(name)&1 == 1 }
		whole := true
		for _, name := range names {
			whole = whole && has(name)
		}
		for _, r := range p.Rungs {
			for _, other := range expr.Names(r.If) {
				whole = whole && (!has(r.Name) || has(other))
			}
		}
		var l []int
		for k := range p.Names {
			if set>>k&1 == 1 {
				l = append(l, k)
			}
		}
		if whole && (least == nil || len(l) < len(least)) {
			least = append([]int{}, l...)
		}
	}
	return least
}

func TestDrawnNeeds(t *testing.T) {
	d := draw(21)
	left := 0
	for range 800 {
		p := d.program(6)
		names := d.some(p, 3)
		got, err := Needs(p, names)
		if want := fewest(p, names); err != nil || !slices.Equal(got, want) {
			t.Fatalf("%q of %v: %v, %s, not %v", ladder.Text(p), names, got, wrong(err), want)
		}
		if len(got) > len(names) && len(got) < len(p.Names) {
			left++
		}
	}
	if left < 100 {
		t.Errorf("the draw is too poor: in %d alone some names are needed besides, and some not", left)
	}
}

// sliced is the program by its lines: those of inputs, of names that are needed, and of rungs of such.
func sliced(p ladder.Program, needs []int) ladder.Program {
	var q ladder.Program
	for k, n := range p.Names {
		if n.Kind == ladder.Input || slices.Contains(needs, k) {
			q.Names = append(q.Names, n)
		}
	}
	for _, r := range p.Rungs {
		if slices.Contains(needs, p.Number(r.Name)) {
			q.Rungs = append(q.Rungs, r)
		}
	}
	return q
}

func sliceOf(t *testing.T, p ladder.Program, names []string) ladder.Program {
	t.Helper()
	q, err := Of(p, names)
	if err != nil {
		t.Fatalf("Of %q, %v: %s", ladder.Text(p), names, wrong(err))
	}
	return q
}

func tidyOf(t *testing.T, p ladder.Program) ladder.Program {
	t.Helper()
	q, err := Tidy(p)
	if err != nil {
		t.Fatalf("Tidy of %q: %s", ladder.Text(p), wrong(err))
	}
	return q
}

func TestDrawnSlices(t *testing.T) {
	d := draw(22)
	for range 500 {
		p := d.program(6)
		names := d.some(p, 3)
		q, want := sliceOf(t, p, names), sliced(p, fewest(p, names))
		if !reflect.DeepEqual(q, want) {
			t.Fatalf("%q of %v: %q, not %q", ladder.Text(p), names, ladder.Text(q), ladder.Text(want))
		}
		if err := ladder.Check(q); err != nil {
			t.Fatalf("%q of %v: Check: %s", ladder.Text(p), names, wrong(err))
		}
		if again := sliceOf(t, q, names); !reflect.DeepEqual(again, q) {
			t.Fatalf("%q of %v: %q, but then %q", ladder.Text(p), names, ladder.Text(q), ladder.Text(again))
		}
		if whole := sliceOf(t, p, namesOf(p)); !reflect.DeepEqual(whole, p) {
			t.Fatalf("%q of all: %q", ladder.Text(p), ladder.Text(whole))
		}
	}
}

// played is the states behind scans.
func played(t *testing.T, p ladder.Program, in [][]bool) []scan.State {
	t.Helper()
	l, err := scan.Play(p, in)
	if err != nil {
		t.Fatalf("Play of %q: %s", ladder.Text(p), wrong(err))
	}
	return l
}

// likePlayed plays two programs by the same inputs: all names of the one must be in each scan what they are in the other.
func likePlayed(t *testing.T, part, whole ladder.Program, in [][]bool) {
	t.Helper()
	got, want := played(t, part, in), played(t, whole, in)
	for k := range in {
		for n, name := range part.Names {
			m := whole.Number(name.Name)
			if got[k].Is[n] != want[k].Is[m] || got[k].Count[n] != want[k].Count[m] {
				t.Fatalf("%q: %s is otherwise behind scan %d of %q", ladder.Text(whole), name.Name, k, ladder.Text(part))
			}
		}
	}
}

func TestSlicesPlayLikeTheWhole(t *testing.T) {
	d := draw(23)
	for range 500 {
		p := d.program(8)
		in := d.inputs(p, 30)
		likePlayed(t, sliceOf(t, p, d.some(p, 3)), p, in)
	}
}

// What holds of a slice's names holds of the whole: both by the same inputs, or none.
func TestSlicesSayTheSame(t *testing.T) {
	d := draw(24)
	held, less := 0, 0
	for range 300 {
		p := d.program(4)
		names := append(d.some(p, 2), "a")
		e := d.expression(names, d.below(3))
		q := sliceOf(t, p, names)
		// A machine keeps what an input was only where a rung asks for its edges: a rung that a slice leaves out, perhaps.
		if slices.ContainsFunc(expr.Edges(e), func(name string) bool { return p.Names[p.Number(name)].Kind == ladder.Input }) {
			continue
		}
		holds, inputs := checked(t, p, e)
		same, alike := checked(t, q, e)
		if holds != same || !slices.Equal(inputs, alike) {
			t.Fatalf("%q, %s: %t, %v; of the slice %t, %v", ladder.Text(p), expr.Text(e), holds, inputs, same, alike)
		}
		if holds {
			held++
		}
		if len(q.Names) < len(p.Names) {
			less++
		}
	}
	if held < 20 || less < 50 {
		t.Errorf("the draw is too poor: %d hold, %d slices are less", held, less)
	}
}

func checked(t *testing.T, p ladder.Program, e expr.Expr) (bool, []int) {
	t.Helper()
	m, err := machine.Of(p)
	if err != nil {
		t.Fatalf("Of %q: %s", ladder.Text(p), wrong(err))
	}
	holds, inputs, err := prop.Check(m, e)
	if err != nil {
		t.Fatalf("Check of %q, %s: %s", ladder.Text(p), expr.Text(e), wrong(err))
	}
	return holds, inputs
}

// tidied is by texts, rung by rung.
func tidied(p ladder.Program) string {
	text := ladder.Text(ladder.Program{Names: p.Names})
	words := []string{ladder.Sets: "", ladder.Set: "set ", ladder.Reset: "reset ", ladder.Run: "run ", ladder.Count: "count ", ladder.Zero: "zero "}
	for _, r := range p.Rungs {
		e := expr.Text(expr.Tidy(r.If))
		if e != "0" || r.Kind == ladder.Sets || r.Kind == ladder.Run {
			text += words[r.Kind] + r.Name + " = " + e + "\n"
		}
	}
	return text
}

func size(p ladder.Program) int {
	n := len(p.Rungs)
	for _, r := range p.Rungs {
		n += expr.Size(r.If)
	}
	return n
}

func TestDrawnTidy(t *testing.T) {
	d := draw(25)
	fewer := 0
	for range 800 {
		p := d.program(6)
		q := tidyOf(t, p)
		if got, want := ladder.Text(q), tidied(p); got != want {
			t.Fatalf("%q: %q, not %q", ladder.Text(p), got, want)
		}
		if err := ladder.Check(q); err != nil || size(q) > size(p) || !slices.Equal(q.Names, p.Names) {
			t.Fatalf("%q: %q, %s", ladder.Text(p), ladder.Text(q), wrong(err))
		}
		likePlayed(t, q, p, d.inputs(p, 20))
		if len(q.Rungs) < len(p.Rungs) {
			fewer++
		}
	}
	if fewer < 100 {
		t.Errorf("the draw is too poor: %d have fewer rungs", fewer)
	}
}

// roomy has things behind the lengths of its lists.
func roomy(p ladder.Program) ladder.Program {
	names := append(slices.Clone(p.Names), ladder.Name{Name: "behind"}, ladder.Name{Name: "there"})
	rungs := append(slices.Clone(p.Rungs), ladder.Rung{Name: "behind"}, ladder.Rung{Name: "there"})
	return ladder.Program{Names: names[:len(p.Names)], Rungs: rungs[:len(p.Rungs)]}
}

// whole is all of a program's lists, up to what stands behind their lengths.
func whole(p ladder.Program) ladder.Program {
	return ladder.Program{Names: slices.Clone(p.Names[:cap(p.Names)]), Rungs: slices.Clone(p.Rungs[:cap(p.Rungs)])}
}

// spoil writes into all that lists of programs have.
func spoil(l ...ladder.Program) {
	for _, p := range l {
		for i := range p.Names[:cap(p.Names)] {
			p.Names[:cap(p.Names)][i] = ladder.Name{Name: "spoilt"}
		}
		for i := range p.Rungs[:cap(p.Rungs)] {
			p.Rungs[:cap(p.Rungs)][i] = ladder.Rung{Name: "spoilt"}
		}
	}
}

func TestArgumentsStayAndAnswersAreFresh(t *testing.T) {
	d := draw(26)
	for range 300 {
		p := roomy(d.program(6))
		names := append(d.some(p, 3), "behind")
		asked := names[:len(names)-1]
		before, text, told := whole(p), ladder.Text(p), slices.Clone(names)
		needs, err := Needs(p, asked)
		q, tidy, all := sliceOf(t, p, asked), tidyOf(t, p), sliceOf(t, p, namesOf(p))
		if err != nil {
			t.Fatalf("Needs: %s", wrong(err))
		}
		texts := []string{ladder.Text(q), ladder.Text(tidy), ladder.Text(all)}
		for i := range needs {
			needs[i] = -9
		}
		kept := whole(q)
		spoil(tidy, all)
		if !reflect.DeepEqual(whole(q), kept) {
			t.Fatalf("%q: answers share a list", ladder.Text(p))
		}
		spoil(q)
		if !reflect.DeepEqual(whole(p), before) || ladder.Text(p) != text || !slices.Equal(names, told) {
			t.Fatalf("%q: what was handed in is otherwise", ladder.Text(p))
		}
		again := []string{ladder.Text(sliceOf(t, p, asked)), ladder.Text(tidyOf(t, p)), ladder.Text(sliceOf(t, p, namesOf(p)))}
		if !slices.Equal(again, texts) {
			t.Fatalf("%q: asked again, it tells %q, not %q", ladder.Text(p), again, texts)
		}
		q, tidy = sliceOf(t, p, asked), tidyOf(t, p)
		spoil(p)
		if ladder.Text(q) != texts[0] || ladder.Text(tidy) != texts[1] {
			t.Fatalf("%q: an answer shares what was handed in", texts[2])
		}
	}
}
