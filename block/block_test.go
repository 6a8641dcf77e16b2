package block

import (
	"errors"
	"math"
	"reflect"
	"slices"
	"strconv"
	"strings"
	"testing"

	"signalcabin/api"
	"signalcabin/ladder"
	"signalcabin/machine"
)

// wrong writes an error: its number, and its place, if it has one.
func wrong(err error) string {
	s := strconv.Itoa(int(api.Tell(err)))
	var at *api.At
	if errors.As(err, &at) {
		s += " at " + strconv.Itoa(at.Place)
	}
	return s
}

func at(err api.Errno, place int) error { return &api.At{Err: err, Place: place} }

func made(t *testing.T, lines ...string) *machine.Machine {
	t.Helper()
	p, err := ladder.Parse(strings.Join(lines, "\n"))
	if err != nil {
		t.Fatalf("Parse of %q: %s", lines, wrong(err))
	}
	return madeOf(t, p)
}

func madeOf(t *testing.T, p ladder.Program) *machine.Machine {
	t.Helper()
	m, err := machine.Of(p)
	if err != nil || m == nil {
		t.Fatalf("Of %q: %s", ladder.Text(p), wrong(err))
	}
	return m
}

// rows are lists of numbers: "1 0, 2 2" are two.
func rows(text string) [][]int {
	var all [][]int
	for _, row := range strings.Split(text, ",") {
		all = append(all, numbers(row))
	}
	return all
}

func numbers(text string) []int {
	l := []int{}
	for _, word := range strings.Fields(text) {
		n, err := strconv.Atoi(word)
		if err != nil {
			panic(err)
		}
		l = append(l, n)
	}
	return l
}

func table(next, tells string) Table { return Table{rows(next), rows(tells)} }

// equal says whether lists of lists are; a list without anything may be nil or not.
func equal(a, b [][]int) bool { return slices.EqualFunc(a, b, slices.Equal[[]int]) }

func same(t, u Table) bool { return equal(t.Next, u.Next) && equal(t.Tells, u.Tells) }

// sized has so many states and inputs: each leads to state 0, and tells 0.
func sized(states, inputs int) Table {
	var t Table
	for range states {
		t.Next, t.Tells = append(t.Next, make([]int, inputs)), append(t.Tells, make([]int, inputs))
	}
	return t
}

// copied has lists of its own.
func copied(t Table) Table {
	u := Table{slices.Clone(t.Next), slices.Clone(t.Tells)}
	for s, row := range u.Next {
		u.Next[s] = slices.Clone(row)
	}
	for s, row := range u.Tells {
		u.Tells[s] = slices.Clone(row)
	}
	return u
}

// 9.1: Check

// asked is a table, and what Check says of it.
type asked struct {
	t    Table
	want error
}

// wrongTables are often wrong in several ways: the first one is told.
func wrongTables() map[string]asked {
	many, wide, late := sized(501, 1), sized(2, 65), sized(3, 64)
	late.Next[1], late.Tells[1] = make([]int, 65), make([]int, 65)
	lost := sized(500, 2)
	lost.Next[499][1] = 500
	return map[string]asked{
		"nothing":                            {Table{}, api.ErrLimit},
		"no states":                          {Table{[][]int{}, [][]int{}}, api.ErrLimit},
		"no states, but some that tell":      {Table{nil, rows("0")}, api.ErrLimit},
		"501 states":                         {many, api.ErrLimit},
		"501 states that tell nothing":       {Table{many.Next, nil}, api.ErrLimit},
		"501 states without inputs":          {Table{make([][]int, 501), make([][]int, 501)}, api.ErrLimit},
		"65 inputs":                          {wide, api.ErrLimit},
		"65 inputs, none told":               {Table{wide.Next, nil}, api.ErrLimit},
		"65 inputs of state 0 alone":         {Table{[][]int{make([]int, 65), {0}}, rows("0, 0")}, api.ErrLimit},
		"65 inputs, to states that are none": {Table{[][]int{slices.Repeat([]int{9}, 65)}, [][]int{make([]int, 65)}}, api.ErrLimit},
		"65 inputs of a later state":         {late, at(api.ErrForm, 1)},
		"one tells nothing":                  {table("0, 0", "0"), api.ErrForm},
		"one too many tells":                 {table("0, 0", "0, 0, 0"), api.ErrForm},
		"none tells":                         {Table{rows("0, 0"), nil}, api.ErrForm},
		"none tells, and one leads nowhere":  {Table{rows("7, 0 0"), nil}, api.ErrForm},
		"500 states, 499 tell":               {Table{sized(500, 1).Next, sized(499, 1).Tells}, api.ErrForm},
		"state 0 tells too little":           {table("0 0, 0 0", "0, 0 0"), at(api.ErrForm, 0)},
		"state 0 tells too much":             {table("0 0, 0 0", "0 0 0, 0 0"), at(api.ErrForm, 0)},
		"a later one tells too little":       {table("0 0, 0 0, 0 0", "0 0, 0 0, 0"), at(api.ErrForm, 2)},
		"a later one tells too much":         {table("0 0, 0 0, 0 0", "0 0, 0 0 0, 0 0"), at(api.ErrForm, 1)},
		"a later one has fewer inputs":       {table("0 0, 0, 0 0", "0 0, 0 0, 0 0"), at(api.ErrForm, 1)},
		"a later one has more inputs":        {table("0 0, 0 0 0, 0 0", "0 0, 0 0, 0 0"), at(api.ErrForm, 1)},
		"fewer of both":                      {table("0 0, 0 0, 0", "0 0, 0 0, 0"), at(api.ErrForm, 2)},
		"more of both":                       {table("0, 0 0", "0, 0 0"), at(api.ErrForm, 1)},
		"none of both":                       {table("0, ", "0, "), at(api.ErrForm, 1)},
		"state 0 has none of both":           {table(", 0", ", 0"), at(api.ErrForm, 1)},
		"to a state below":                   {table("0 0, 0 -1", "0 0, 0 0"), at(api.ErrRange, 1)},
		"to a state beyond":                  {table("0 2, 0 0", "0 0, 0 0"), at(api.ErrRange, 0)},
		"to the state beyond 500":            {lost, at(api.ErrRange, 499)},
		"to a state far beyond":              {Table{[][]int{{math.MaxInt}}, rows("0")}, at(api.ErrRange, 0)},
		"to a state far below":               {Table{[][]int{{0}, {math.MinInt}}, rows("0, 0")}, at(api.ErrRange, 1)},
		"the form ahead of the range":        {table("0 0, 2", "0 0, 0 0"), at(api.ErrForm, 1)},
		"what it tells ahead of the range":   {table("0 0, 2 2", "0 0, 0"), at(api.ErrForm, 1)},
		"the first state's ahead of a later": {table("0 2, 0", "0 0, 0"), at(api.ErrRange, 0)},
		"of like ones the first":             {table("0, 9, 9", "0, 0, 0"), at(api.ErrRange, 1)},
	}
}

func TestCheckWrong(t *testing.T) {
	for what, c := range wrongTables() {
		if err := Check(c.t); !reflect.DeepEqual(err, c.want) {
			t.Errorf("%s: %s, not %s", what, wrong(err), wrong(c.want))
		}
	}
}

func TestCheckRight(t *testing.T) {
	full := sized(500, 64)
	full.Next[0][63], full.Next[499][0] = 499, 499
	for what, c := range map[string]Table{
		"one state":                    table("0", "0"),
		"one state without inputs":     {make([][]int, 1), make([][]int, 1)},
		"500 states without inputs":    {make([][]int, 500), make([][]int, 500)},
		"one state, 64 inputs":         sized(1, 64),
		"500 states":                   sized(500, 1),
		"500 states, 64 inputs":        full,
		"anything may be told":         {rows("1 0, 0 1"), [][]int{{math.MinInt, -1}, {math.MaxInt, 1 << 40}}},
		"the document's":               table("1, 0, 0", "5, 5, 6"),
		"states that are not led into": table("0 0, 0 0, 0 0", "0 0, 1 1, 2 2"),
	} {
		if err := Check(c); err != nil {
			t.Errorf("%s: %s", what, wrong(err))
		}
	}
}

// What Check says, the others say ahead of all else, and nothing beside it.
func TestOthersSayWhatCheckSays(t *testing.T) {
	for what, c := range wrongTables() {
		if l, err := Blocks(c.t); l != nil || !reflect.DeepEqual(err, c.want) {
			t.Errorf("Blocks, %s: %v, %s, not %s", what, l, wrong(err), wrong(c.want))
		}
		if u, err := Least(c.t); !reflect.DeepEqual(u, Table{}) || !reflect.DeepEqual(err, c.want) {
			t.Errorf("Least, %s: %v, %s, not %s", what, u, wrong(err), wrong(c.want))
		}
		for _, s := range []int{0, 1, -1, 600} {
			if l, err := Part(c.t, s, 0); l != nil || !reflect.DeepEqual(err, c.want) {
				t.Errorf("Part, %s: %v, %s, not %s", what, l, wrong(err), wrong(c.want))
			}
			if l, err := Tell(c.t, s, []int{0, s}); l != nil || !reflect.DeepEqual(err, c.want) {
				t.Errorf("Tell, %s: %v, %s, not %s", what, l, wrong(err), wrong(c.want))
			}
		}
	}
}

// 9.1: Of

const (
	// m is set, and stays: 0 goes to 0 and 1, 1 to 1 and 1.
	latch = "input a\ncoil m\nset m = a"
	// 6 inputs, 64 states.
	twelve = "input a\ninput b\ninput c\ninput d\ninput e\ninput f\ncoil g\ncoil h\ncoil i\ncoil j\ncoil k\ncoil l\ng = !a\nh = b\ni = c & i\nj = d | j\nk = e\nl = !f"
	// 5 x 5 x 5 x 4 states.
	fiveHundred = "input a\ntimer p 4\ntimer q 4\ntimer r 4\ntimer s 3\nrun p = a\nrun q = p\nrun r = q\nrun s = r"
	// 8 x 7 x 3 x 3 states.
	more = "input a\ntimer p 7\ntimer q 6\ntimer r 2\ntimer s 2\nrun p = a"
)

func TestOf(t *testing.T) {
	for _, c := range []struct {
		what, program, names string
		want                 Table
	}{
		{"a coil", latch, "m", table("0 1, 1 1", "0 1, 1 1")},
		{"an input", latch, "a", table("0 1, 1 1", "0 1, 0 1")},
		{"both", latch, "a m", table("0 1, 1 1", "0 3, 2 3")},
		{"both, the other way round", latch, "m a", table("0 1, 1 1", "0 3, 1 3")},
		{"none", latch, "", table("0 1, 1 1", "0 0, 0 0")},
		{"one twice", latch, "m m", table("0 1, 1 1", "0 3, 3 3")},
		{"one again behind another", latch, "m a m", table("0 1, 1 1", "0 7, 5 7")},
		{"one twelve times", latch, "m m m m m m m m m m m m", table("0 1, 1 1", "0 4095, 4095 4095")},
		{"a timer: true at its count alone", "input a\ntimer t 2\nrun t = a", "t", table("0 1, 0 2, 0 2", "0 0, 0 1, 0 1")},
		{"a counter", "counter c 2\ncount c = 1", "c", table("1, 2, 2", "0, 1, 1")},
		{"behind the scan, not ahead of it", "coil m\nm = !m", "m", table("1, 0", "1, 0")},
		{"no names, and none in the program", "", "", table("0", "0")},
		{"an input with a part of its own", "input a\ncoil m\nm = ^a", "m a", table("0 3, 0 1, 0 3, 0 1", "0 3, 0 2, 0 3, 0 2")},
	} {
		m := made(t, c.program)
		u, err := Of(m, strings.Fields(c.names))
		if err != nil || !same(u, c.want) {
			t.Errorf("%s: %v, %s, not %v", c.what, u, wrong(err), c.want)
		}
		if err := Check(u); err != nil {
			t.Errorf("%s: Check says %s", c.what, wrong(err))
		}
	}
}

// With 12 names, and 500 states, all is told.
func TestOfGreatest(t *testing.T) {
	for _, c := range []struct{ program, names string }{
		{twelve, "a b c d e f g h i j k l"},
		{twelve, "l a k b j c i d h e g f"},
		{fiveHundred, "s r q p a"},
	} {
		m, names := made(t, c.program), strings.Fields(c.names)
		u, err := Of(m, names)
		if err != nil || !equal(u.Next, m.Next) || len(u.Tells) != m.States {
			t.Fatalf("%s: %d states, %d tell, %s", c.names, len(u.Next), len(u.Tells), wrong(err))
		}
		if err := Check(u); err != nil {
			t.Errorf("%s: Check says %s", c.names, wrong(err))
		}
		for s := range m.States {
			for i := range m.Inputs {
				sees, err := m.Sees(s, i)
				if err != nil || len(sees) != len(m.Program.Names) {
					t.Fatalf("Sees: %v, %s", sees, wrong(err))
				}
				for k, name := range names {
					if is := u.Tells[s][i]>>k&1 == 1; is != sees[m.Program.Number(name)] {
						t.Fatalf("%s: %s is %t, from %d by %d", c.names, name, is, s, i)
					}
				}
				if u.Tells[s][i]>>len(names) != 0 {
					t.Fatalf("%s: %d is told", c.names, u.Tells[s][i])
				}
			}
		}
	}
}

func TestOfWrong(t *testing.T) {
	small, limit, great := made(t, latch), made(t, fiveHundred), made(t, more)
	if limit.States != 500 || great.States != 504 {
		t.Fatalf("%d and %d states", limit.States, great.States)
	}
	twelveTimes := slices.Repeat([]string{"a"}, 12)
	for _, c := range []struct {
		what  string
		m     *machine.Machine
		names []string
		want  error
	}{
		{"no machine", nil, nil, api.ErrMissing},
		{"no machine, a name", nil, []string{"a"}, api.ErrMissing},
		{"no machine, too many names", nil, slices.Repeat([]string{"a"}, 13), api.ErrMissing},
		{"13 names", small, append(slices.Clone(twelveTimes), "m"), api.ErrLimit},
		{"13 names, one of them missing", small, append([]string{"b"}, twelveTimes...), api.ErrLimit},
		{"100 names that are missing", small, slices.Repeat([]string{"b"}, 100), api.ErrLimit},
		{"504 states", great, []string{"p"}, api.ErrLimit},
		{"504 states, no names", great, nil, api.ErrLimit},
		{"504 states, a missing name", great, []string{"zz"}, api.ErrLimit},
		{"a missing name", small, []string{"b"}, api.ErrMissing},
		{"a missing name ahead of others", small, []string{"b", "a", "m"}, api.ErrMissing},
		{"a missing name behind others", small, []string{"a", "m", "b"}, api.ErrMissing},
		{"12 names, the last one missing", small, append(slices.Clone(twelveTimes[1:]), "b"), api.ErrMissing},
		{"a name of nothing", small, []string{""}, api.ErrMissing},
		{"a name that begins so", small, []string{"aa"}, api.ErrMissing},
		{"500 states, a missing name", limit, []string{"m"}, api.ErrMissing},
		{"no names in the program", made(t, ""), []string{"a"}, api.ErrMissing},
	} {
		if u, err := Of(c.m, c.names); !reflect.DeepEqual(u, Table{}) || err != c.want {
			t.Errorf("%s: %v, %s, not %s", c.what, u, wrong(err), wrong(c.want))
		}
	}
	if _, err := Of(small, twelveTimes); err != nil {
		t.Errorf("12 names: %s", wrong(err))
	}
	if _, err := Of(limit, nil); err != nil {
		t.Errorf("500 states: %s", wrong(err))
	}
}

// 9.2: Blocks, and Least

func TestBlocks(t *testing.T) {
	for _, c := range []struct {
		what   string
		t      Table
		blocks string
		least  Table
	}{
		{"the document's", table("1, 0, 0", "5, 5, 6"), "0 0 1", table("0, 0", "5, 6")},
		{"one state", table("0 0", "1 2"), "0", table("0 0", "1 2")},
		{"all alike", table("1, 2, 3, 0", "7, 7, 7, 7"), "0 0 0 0", table("0", "7")},
		{"no inputs: nothing tells them apart", table(", , ", ", , "), "0 0 0", table("", "")},
		{"none alike", table("0, 0, 0", "1, 2, 3"), "0 1 2", table("0, 0, 0", "1, 2, 3")},
		{"as they come, not by what is told", table("0, 1, 2, 3, 4", "9, 3, 9, 1, 3"), "0 1 0 2 1", table("0, 1, 2", "9, 3, 1")},
		{"as they come, though the first is parted later", table("1, 1, 3, 1", "0, 0, 0, 1"), "0 0 1 2", table("0, 2, 0", "0, 0, 1")},
		{"parted by a later input alone", table("0 0, 1 1", "4 5, 4 6"), "0 1", table("0 0, 1 1", "4 5, 4 6")},
		{"parted by the second time", table("2, 3, 2, 3", "0, 0, 1, 2"), "0 1 2 3", table("2, 3, 2, 3", "0, 0, 1, 2")},
		{"parted by the second time, by a later input", table("0 2, 0 1, 2 2", "0 0, 0 0, 0 1"), "0 1 2", table("0 2, 0 1, 2 2", "0 0, 0 0, 0 1")},
		{"a line: parted one by one, from its end", table("1, 2, 3, 4, 4", "0, 0, 0, 0, 1"), "0 1 2 3 4", table("1, 2, 3, 4, 4", "0, 0, 0, 0, 1")},
		{"another state, but like it", table("1 2, 3 0, 0 3, 2 1", "0 1, 0 1, 0 1, 0 1"), "0 0 0 0", table("0 0", "0 1")},
		{"two rounds, the one gone twice", table("1, 0, 3, 4, 5, 2", "0, 1, 0, 1, 0, 1"), "0 1 0 1 0 1", table("1, 0", "0, 1")},
		{"two rounds of 2 and 3", table("1, 0, 3, 4, 2", "0, 1, 0, 1, 0"), "0 1 2 3 4", table("1, 0, 3, 4, 2", "0, 1, 0, 1, 0")},
		{"one that is not come to counts", table("0, 0", "0, 1"), "0 1", table("0, 0", "0, 1")},
		{"the same of each input, in another order", table("0 0, 1 1", "1 2, 2 1"), "0 1", table("0 0, 1 1", "1 2, 2 1")},
		{"great and small numbers are told apart", Table{rows("0, 1, 2"), [][]int{{math.MaxInt}, {math.MinInt}, {-1}}}, "0 1 2", Table{rows("0, 1, 2"), [][]int{{math.MaxInt}, {math.MinInt}, {-1}}}},
	} {
		l, err := Blocks(c.t)
		if err != nil || !slices.Equal(l, numbers(c.blocks)) {
			t.Errorf("Blocks, %s: %v, %s, not %s", c.what, l, wrong(err), c.blocks)
		}
		u, err := Least(c.t)
		if err != nil || !same(u, c.least) {
			t.Errorf("Least, %s: %v, %s, not %v", c.what, u, wrong(err), c.least)
		}
	}
}

// 9.2: Part

func TestPart(t *testing.T) {
	// 1 and 2 are parted by 0 1 and by 1 0: behind either other states are come to that tell something else.
	ways := table("0 0, 3 4, 5 6, 3 3, 4 4, 5 5, 6 6", "0 0, 0 0, 0 0, 0 1, 1 0, 0 2, 2 0")
	for _, c := range []struct {
		what string
		t    Table
		a, b int
		want string
	}{
		{"the document's", table("1, 0, 0", "5, 5, 6"), 0, 2, "0"},
		{"the document's, the other way round", table("1, 0, 0", "5, 5, 6"), 2, 1, "0"},
		{"at once, by the least", table("0 0 0, 0 0 0", "0 1 2, 0 2 1"), 0, 1, "1"},
		{"at once, by the last", table("0 0 0, 0 0 0", "0 1 2, 0 1 3"), 1, 0, "2"},
		{"at once, though less inputs would tell later", table("2 0, 3 1, 2 2, 3 3", "0 0, 0 1, 1 0, 2 0"), 0, 1, "1"},
		{"by two", table("2, 3, 2, 3", "0, 0, 1, 2"), 0, 1, "0 0"},
		{"by two, of like ones the least", ways, 1, 2, "0 1"},
		{"by two, the least at the end", table("2 0, 3 1, 2 2, 3 3", "0 0, 0 0, 0 1, 0 2"), 0, 1, "0 1"},
		{"less at first is less", table("2 4, 3 5, 2 2, 3 3, 4 4, 5 5", "0 0, 0 0, 0 1, 0 2, 1 0, 2 0"), 0, 1, "0 1"},
		{"the least leads nowhere", table("0 2, 0 3, 2 2, 3 3", "0 0, 0 0, 1 1, 2 1"), 0, 1, "1 0"},
		{"a line's end", table("1, 2, 3, 4, 4", "0, 0, 0, 0, 1"), 0, 1, "0 0 0 0"},
		{"from the other side", table("1, 2, 3, 4, 4", "0, 0, 0, 0, 1"), 0, 3, "0 0"},
		{"rounds of 2 and 3", table("1, 0, 3, 4, 2", "0, 1, 0, 1, 0"), 0, 2, "0 0 0 0"},
		{"into each other, and out by 1", table("1 2, 0 3, 2 2, 3 3", "0 0, 0 0, 5 5, 5 6"), 0, 1, "1 1"},
	} {
		l, err := Part(c.t, c.a, c.b)
		if err != nil || !slices.Equal(l, numbers(c.want)) {
			t.Errorf("%s: %v, %s, not %s", c.what, l, wrong(err), c.want)
		}
		l, err = Part(c.t, c.b, c.a)
		if err != nil || !slices.Equal(l, numbers(c.want)) {
			t.Errorf("%s, turned: %v, %s, not %s", c.what, l, wrong(err), c.want)
		}
	}
}

func TestPartWrong(t *testing.T) {
	three, none := table("1, 0, 0", "5, 5, 6"), table(", , ", ", , ")
	for _, c := range []struct {
		what string
		t    Table
		a, b int
		want error
	}{
		{"alike", three, 0, 1, api.ErrNone},
		{"alike, the other way round", three, 1, 0, api.ErrNone},
		{"itself", three, 2, 2, api.ErrNone},
		{"without inputs", none, 0, 2, api.ErrNone},
		{"alike, in a round", table("1 2, 3 0, 0 3, 2 1", "0 1, 0 1, 0 1, 0 1"), 0, 3, api.ErrNone},
		{"the first is below", three, -1, 0, api.ErrRange},
		{"the second is below", three, 0, -1, api.ErrRange},
		{"the first is beyond", three, 3, 0, api.ErrRange},
		{"the second is beyond", three, 0, 3, api.ErrRange},
		{"both are, and the same", three, 3, 3, api.ErrRange},
		{"without inputs, beyond", none, 3, 0, api.ErrRange},
		{"far beyond", three, math.MaxInt, 0, api.ErrRange},
		{"far below", three, 0, math.MinInt, api.ErrRange},
	} {
		if l, err := Part(c.t, c.a, c.b); l != nil || err != c.want {
			t.Errorf("%s: %v, %s, not %s", c.what, l, wrong(err), wrong(c.want))
		}
	}
}

// 9.2: Tell

func TestTell(t *testing.T) {
	u := table("1 2, 2 0, 2 1", "10 11, 20 21, 30 31")
	for _, c := range []struct {
		s        int
		in, want string
	}{
		{0, "", ""},
		{2, "", ""},
		{0, "0", "10"},
		{0, "1", "11"},
		{1, "1", "21"},
		{0, "0 0 0 0", "10 20 30 30"},
		{0, "1 1 1 1", "11 31 21 11"},
		{2, "0 1 0 1 0", "30 31 20 31 20"},
		{1, "1 0 0", "21 10 20"},
	} {
		if l, err := Tell(u, c.s, numbers(c.in)); err != nil || !slices.Equal(l, numbers(c.want)) {
			t.Errorf("%d, %s: %v, %s, not %s", c.s, c.in, l, wrong(err), c.want)
		}
	}
	if l, err := Tell(u, 0, nil); err != nil || len(l) != 0 {
		t.Errorf("no inputs: %v, %s", l, wrong(err))
	}
	if l, err := Tell(table(", ", ", "), 1, nil); err != nil || len(l) != 0 {
		t.Errorf("a table without inputs: %v, %s", l, wrong(err))
	}
}

func TestTellWrong(t *testing.T) {
	u := table("1 2, 2 0, 2 1", "10 11, 20 21, 30 31")
	for _, c := range []struct {
		s  int
		in []int
	}{
		{-1, nil}, {3, nil}, {3, []int{0}}, {math.MaxInt, nil}, {math.MinInt, nil}, {-1, []int{2}},
		{0, []int{2}}, {0, []int{-1}}, {0, []int{0, 1, 2}}, {0, []int{2, 0}}, {0, []int{0, -1, 0}},
		{0, []int{math.MaxInt}}, {0, []int{math.MinInt}}, {2, append(make([]int, 999), 2)},
	} {
		if l, err := Tell(u, c.s, c.in); l != nil || err != error(api.ErrRange) {
			t.Errorf("%d, %v: %v, %s", c.s, c.in, l, wrong(err))
		}
	}
	if l, err := Tell(table(", ", ", "), 0, []int{0}); l != nil || err != error(api.ErrRange) {
		t.Errorf("a table without inputs: %v, %s", l, wrong(err))
	}
}

// Rules that hold everywhere

// Of machines that Of did not make nothing is said, but no call panics, and each ends.
func TestNothingPanics(t *testing.T) {
	whole, other := made(t, "input a\ntimer t 2\nrun t = a"), made(t, latch)
	longer := *other
	longer.Program = whole.Program
	longer.Next = append(slices.Clone(longer.Next), []int{0, 1}, []int{0, 1, 2, 3, 4})
	renamed := *other
	renamed.Program = made(t, twelve).Program
	for _, m := range []*machine.Machine{
		{},
		{States: math.MaxInt, Inputs: math.MaxInt},
		{States: -1, Inputs: -1},
		{Program: whole.Program},
		{Program: whole.Program, States: math.MaxInt, Inputs: math.MaxInt, Next: whole.Next},
		{Program: whole.Program, States: 2, Inputs: 2, Next: [][]int{nil, {0}}},
		{Program: whole.Program, States: 2, Inputs: 2, Next: [][]int{{math.MaxInt, 1}, {math.MinInt, -1}}},
		&longer,
		&renamed,
	} {
		for _, names := range [][]string{nil, {"a"}, {"t", "a"}, {"l"}, {""}} {
			u, _ := Of(m, names)
			Blocks(u)
			Least(u)
			Part(u, 0, 1)
			Tell(u, 0, []int{0, 1})
		}
	}
}

// behind is a table whose lists, and lists of lists, go on behind their lengths.
func behind(t Table) Table {
	on := func(l [][]int) [][]int {
		l = append(slices.Clone(l), []int{77}, []int{78})
		for s, row := range l {
			l[s] = append(slices.Clone(row), 79, 80)[:len(row)]
		}
		return l[:len(l)-2]
	}
	return Table{on(t.Next), on(t.Tells)}
}

// whole is all of a table, and what stands behind its lengths.
func whole(t Table) Table {
	out := func(l [][]int) [][]int {
		l = slices.Clone(l[:cap(l)])
		for s, row := range l {
			l[s] = slices.Clone(row[:cap(row)])
		}
		return l
	}
	return Table{out(t.Next), out(t.Tells)}
}

func TestArgumentsStay(t *testing.T) {
	d := draw(91)
	for range 300 {
		u := behind(d.table(6, 3))
		before := whole(u)
		in := append(d.word(len(u.Next[0]), 4), 55, 56)
		word := slices.Clone(in)
		l, _ := Blocks(u)
		p, _ := Part(u, d.below(len(u.Next)), d.below(len(u.Next)))
		least, _ := Least(u)
		y, _ := Tell(u, 0, in[:len(in)-2])
		Check(u)
		spoil(append(append(slices.Clone(least.Next), least.Tells...), l, p, y)...)
		if !reflect.DeepEqual(whole(u), before) || !slices.Equal(in, word) {
			t.Fatalf("%v: what was handed in is written into", before)
		}
	}
	for range 50 {
		p := d.program(4)
		m, before := madeOf(t, p), madeOf(t, p)
		names := []string{"a", "a", "rest"}
		u, _ := Of(m, names[:2])
		spoil(u.Next...)
		spoil(u.Tells...)
		if !reflect.DeepEqual(m, before) || !slices.Equal(names, []string{"a", "a", "rest"}) {
			t.Fatalf("%q: what was handed in is written into", ladder.Text(p))
		}
	}
}

// spoil writes over lists, and behind their lengths.
func spoil(lists ...[]int) {
	for _, l := range lists {
		l = l[:cap(l)]
		for k := range l {
			l[k] = -99
		}
	}
}

// No two lists of an answer share memory: one is written over, behind its length too, and the others stay.
func TestAnswersAreFresh(t *testing.T) {
	d := draw(92)
	m := made(t, fiveHundred)
	for _, ask := range []func() Table{
		func() Table { u, _ := Of(m, []string{"p", "q"}); return u },
		func() Table { u, _ := Least(table("1 2, 2 0, 2 1, 2 1", "1 1, 1 1, 1 2, 1 2")); return u },
		func() Table { u, _ := Least(d.table(6, 3)); return u },
	} {
		u := ask()
		all := append(slices.Clone(u.Next), u.Tells...)
		for k := range all {
			before := copied(Table{all, nil}).Next
			spoil(all[k])
			before[k] = all[k]
			if !equal(all, before) {
				t.Fatalf("list %d shares memory", k)
			}
		}
	}
}

// What is answered hangs on the arguments alone, whatever was asked ahead, and done with the answers.
func TestAskedAgain(t *testing.T) {
	u := table("1 2, 2 0, 2 1, 2 1", "1 1, 1 1, 1 2, 1 2")
	for range 3 {
		l, _ := Blocks(u)
		p, _ := Part(u, 0, 1)
		least, _ := Least(u)
		y, _ := Tell(u, 0, []int{1, 1})
		if !slices.Equal(l, numbers("0 1 2 2")) || !slices.Equal(p, numbers("0 1")) || !slices.Equal(y, numbers("1 2")) || !same(least, table("1 2, 2 0, 2 1", "1 1, 1 1, 1 2")) {
			t.Fatalf("%v, %v, %v, %v", l, p, y, least)
		}
		spoil(l, p, y)
		spoil(least.Next...)
		spoil(least.Tells...)
	}
}

// line is as long as can be: each leads to the next one, by whatever comes, and the last one alone tells something else.
func line(states, inputs int) Table {
	t := sized(states, inputs)
	for s := range states {
		for i := range inputs {
			t.Next[s][i] = min(s+1, states-1)
		}
	}
	t.Tells[states-1][inputs-1] = 1
	return t
}

func TestGreatestLine(t *testing.T) {
	u := line(500, 64)
	l, err := Blocks(u)
	for s, b := range l {
		if b != s {
			t.Fatalf("state %d is of block %d", s, b)
		}
	}
	if err != nil || len(l) != 500 {
		t.Errorf("%d states, %s", len(l), wrong(err))
	}
	if least, err := Least(u); err != nil || !same(least, u) {
		t.Errorf("Least: %d states, %s", len(least.Next), wrong(err))
	}
	p, err := Part(u, 0, 1)
	if want := append(make([]int, 498), 63); err != nil || !slices.Equal(p, want) {
		t.Errorf("%d inputs, %s", len(p), wrong(err))
	}
}

// Rounds of 249 and 251 states: all pairs of both are met.
func TestGreatestRounds(t *testing.T) {
	u := sized(500, 64)
	for s := range 500 {
		for i := range 64 {
			u.Next[s][i] = s + 1
			if s == 248 {
				u.Next[s][i] = 0
			}
			if s == 499 {
				u.Next[s][i] = 249
			}
		}
	}
	if l, err := Part(u, 0, 249); l != nil || err != error(api.ErrNone) {
		t.Errorf("%d inputs, %s", len(l), wrong(err))
	}
	if least, err := Least(u); err != nil || !same(least, sized(1, 64)) {
		t.Errorf("Least: %d states, %s", len(least.Next), wrong(err))
	}
	// Each tells by its last state: 0 is there behind 248 scans, 249 behind 250.
	u.Tells[248][63], u.Tells[499][63] = 1, 1
	if l, err := Part(u, 0, 249); err != nil || !slices.Equal(l, append(make([]int, 248), 63)) {
		t.Errorf("%d inputs, %s", len(l), wrong(err))
	}
	if l, err := Blocks(u); err != nil || len(l) != 500 || slices.Max(l) != 499 {
		t.Errorf("%d states, %s", len(l), wrong(err))
	}
}
