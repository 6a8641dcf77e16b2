package desk

import (
	"strconv"
	"strings"
	"testing"

	"signalcabin/api"
)

// line is one of a session, and what it tells.
type line struct{ asks, tells string }

// talk holds one session against what its lines should tell.
func talk(t *testing.T, lines ...line) {
	t.Helper()
	var asks []string
	for _, l := range lines {
		asks = append(asks, l.asks)
	}
	got := Session(strings.Join(asks, "\n") + "\n")
	tells := strings.Split(strings.TrimSuffix(got, "\n"), "\n")
	if len(tells) != len(lines) || !strings.HasSuffix(got, "\n") {
		t.Fatalf("%d lines are answered by %d: %q", len(lines), len(tells), got)
	}
	for k, l := range lines {
		if tells[k] != l.tells {
			t.Errorf("line %d, %.100q: %.200q, not %.200q", k, l.asks, tells[k], l.tells)
		}
	}
}

// held is the program of most of these sessions: what a sets is held until t has run 2 scans.
var held = line{"program input a; coil m; timer t 2; set m = a; run t = m; reset m = t", "3 3"}

func TestTexts(t *testing.T) {
	const help = "answers blocks check clear far help induct lines pairs path program same scan slice solve states tidy tour\n"
	for text, want := range map[string]string{
		"":                  "ok\n",
		"\n":                "ok\n",
		"\n\n":              "ok\nok\n",
		"\n\n\n":            "ok\nok\nok\n",
		"   ":               "ok\n",
		"  \n \n":           "ok\nok\n",
		"help":              help,
		"help\n":            help,
		"help\n\n":          help + "ok\n",
		"\nhelp":            "ok\n" + help,
		"  help ":           help,
		"\n  \nhelp\nx\n\n": "ok\nok\n" + help + "error 3\nok\n",
		"clear\nclear":      "clear\nclear\n",
		"program input a; coil m; set m = a\nscan 1\ncheck !m\n": "2 1\n11 0 0\n1\n",
		// A blank is a space, and a line feed alone ends a line.
		"\t":              "error 3\n",
		"help\t":          "error 3\n",
		"help\r\n":        "error 3\n",
		"help\x00":        "error 3\n",
		"help\u00a0":      "error 3\n",
		"\u2003help":      "error 3\n",
		"\v":              "error 3\n",
		"clear\rclear\n":  "error 3\n",
		"clear \f\nclear": "error 3\nclear\n",
		"\xff\n\xfe\xff":  "error 3\nerror 3\n",
	} {
		if got := Session(text); got != want {
			t.Errorf("%q: %q, not %q", text, got, want)
		}
	}
}

func TestTextsThatAreTooLong(t *testing.T) {
	for _, c := range []struct{ text, want string }{
		{strings.Repeat(" ", api.MaxText), "ok\n"},
		{strings.Repeat(" ", api.MaxText+1), "error 4\n"},
		{strings.Repeat("\n", api.MaxText), strings.Repeat("ok\n", api.MaxText)},
		{strings.Repeat("\n", api.MaxText+1), "error 4\n"},
		{strings.Repeat("x", api.MaxText), "error 3\n"},
		{strings.Repeat("x", 3*api.MaxText), "error 4\n"},
		{strings.Repeat("x ", api.MaxText/2), "error 3\n"},
		{"clear\n" + strings.Repeat(" ", api.MaxText-6), "clear\nok\n"},
		{"clear\n" + strings.Repeat(" ", api.MaxText-5), "error 4\n"},
		{strings.Repeat("clear\n", api.MaxText/6), strings.Repeat("clear\n", api.MaxText/6)},
	} {
		if got := Session(c.text); got != c.want {
			t.Errorf("%d bytes, %.20q: %.60q", len(c.text), c.text, got)
		}
	}
}

// The first word must be one of these, and so many words stand behind it.
func TestForms(t *testing.T) {
	talk(t,
		held,
		line{"x", "error 3"}, line{"Help", "error 3"}, line{"hel", "error 3"}, line{"helps", "error 3"}, line{"help,", "error 3"},
		line{"0", "error 3"}, line{";", "error 3"}, line{",", "error 3"}, line{"ok", "error 3"}, line{"error 3", "error 3"}, line{"holds", "error 3"},
		line{"lines x", "error 3"}, line{"lines lines", "error 3"},
		line{"scan 1 1", "error 3"}, line{"scan 1 0 1", "error 3"},
		line{"states 0", "error 3"},
		line{"far 0", "error 3"},
		line{"path", "error 3"}, line{"path 0 0", "error 3"},
		line{"answers", "error 3"}, line{"answers 1", "error 3"},
		line{"induct", "error 3"}, line{"induct 1", "error 3"},
		line{"tidy m", "error 3"}, line{"tour 1", "error 3"}, line{"clear x", "error 3"}, line{"help help", "error 3"},
		line{"same", "error 3"}, line{"check", "error 3"}, line{"pairs", "error 3"}, line{"solve", "error 3"},
		// None of these changed anything.
		line{"lines", "input a; coil m; timer t 2; set m = a; run t = m; reset m = t"},
		line{"scan 1", "110 0 0 1"},
	)
	talk(t,
		line{"   program   coil  m ;  m  =  1  ", "1 1"}, line{" lines ", "coil m; m = 1"}, line{"  scan", "1 0"}, line{"path   1  ", "0"},
		line{" answers  0   m  ,  m ", "holds"}, line{" induct  1   m ", "1 1"}, line{"  blocks   m   m", "0 0"},
	)
}

func TestNumbers(t *testing.T) {
	lines := []line{
		held,
		{"path 0", ""}, {"path 3", "1"}, {"path 4", "1 0"}, {"path 6", "error 2"}, {"path -1", "error 2"},
		{"path 9223372036854775807", "error 2"}, {"path -9223372036854775808", "error 2"}, {"path 9223372036854775808", "error 3"}, {"path -9223372036854775809", "error 3"},
	}
	for _, word := range []string{"x", "a", "-", "--1", "+1", "+0", "-0", "00", "03", "-03", "0x3", "3x", "1_0", "3.0", "3,", "1e1", "٣", "3;", "99999999999999999999999"} {
		lines = append(lines, line{"path " + word, "error 3"}, line{"answers " + word + " a , a", "error 3"}, line{"induct " + word + " a", "error 3"})
	}
	talk(t, lines...)
}

// Expressions are all words that are left, with one blank between.
func TestExpressions(t *testing.T) {
	talk(t,
		held,
		line{"check !a|m|t", "holds"}, line{"check !a | m | t", "holds"}, line{"check   !   a   |   m|t  ", "holds"}, line{"check ( ! a ) | ( m|t )", "holds"},
		// They are not put together: a m is not am.
		line{"check a m", "error 3"}, line{"program coil am", "1 0"}, line{"check a m", "error 3"}, line{"check am", "0"}, line{"check ! am", "holds"},
		line{"check", "error 3"}, line{"check (", "error 3"}, line{"check am &", "error 3"}, line{"check am = am", "error 3"},
		line{"check Am", "error 5"}, line{"check set", "error 5"}, line{"check am | coil", "error 5"}, line{"check ninebytes", "error 5"}, line{"check am , am", "error 3"},
		line{"check " + strings.Repeat("! ", 19) + "am", "holds"}, line{"check " + strings.Repeat("! ", 20) + "am", "error 4"},
	)
	// How long they are is counted with one blank between.
	long := strings.Repeat("m & ", 499) + "m" // 1,997 bytes
	one := line{"program coil m; set m = 1", "1 1"}
	talk(t, one, line{"check " + long, "holds"}, line{"check    " + long + "   ", "holds"}, line{"check m&" + long, "holds"}, line{"check !!" + long, "holds"})
	talk(t, one, line{"check !! " + long, "holds"}, line{"check  !!    " + long, "holds"}, line{"check !!!!" + long, "error 4"}, line{"check !! !!" + long, "error 4"})
	talk(t, one, line{"check " + strings.ReplaceAll(strings.Repeat("m & ", 60)+"m", " ", strings.Repeat(" ", 40)), "holds"})
}

// Two expressions are cut at the first comma; what is wrong is told from the left.
func TestTwoExpressions(t *testing.T) {
	talk(t,
		held,
		line{"same a,a", "1"}, line{"same a ,a", "1"}, line{"same a, a", "1"}, line{"same a , a", "1"}, line{"same   a   ,   a  ", "1"}, line{"same a|b,b | a", "1"},
		line{"same a", "error 3"}, line{"same a a", "error 3"}, line{"same a ; a", "error 3"},
		line{"same ,", "error 3"}, line{"same a ,", "error 3"}, line{"same , a", "error 3"},
		// Behind the first one a comma begins a word that is no name.
		line{"same a , ,", "error 5"}, line{"same a , a , a", "error 3"}, line{"same a,,a", "error 5"}, line{"same ,,", "error 3"},
		// No comma ahead of both, the first one ahead of the second one.
		line{"same Bad", "error 3"}, line{"same Bad , (", "error 5"}, line{"same ( , Bad", "error 3"}, line{"same a , Bad", "error 5"}, line{"same a , (", "error 3"}, line{"same a b , Bad", "error 3"},
		line{"same " + strings.Repeat("!", 20) + "a , Bad", "error 4"}, line{"same Bad , " + strings.Repeat("!", 20) + "a", "error 5"},
		// The number ahead of all that.
		line{"answers x Bad , a", "error 3"}, line{"answers 1 Bad", "error 3"}, line{"answers 1 Bad , (", "error 5"}, line{"answers 1 ( , Bad", "error 3"}, line{"answers 1 a , Bad", "error 5"},
		line{"answers 1,a,a", "error 3"}, line{"answers , a , a", "error 3"}, line{"answers 1 a", "error 3"}, line{"answers 1 ,", "error 3"}, line{"answers 1 a m , m", "error 3"},
	)
}

// What is read is told ahead of what is wrong with the machine, and that ahead of what the chapters say behind it.
func TestTheMachinesErrorIsToldBehindWhatIsRead(t *testing.T) {
	wide := "program input a; input b; input c; input d; input e; input f; input g; coil m; m = a & !!b"
	deep := "program coil a; coil m; counter c 7; counter d 7; counter e 7; counter f 7; m = a & !!c"
	for _, p := range []line{{wide, "8 1"}, {deep, "6 1"}} {
		talk(t,
			p,
			line{"states", "error 4"}, line{"far", "error 4"}, line{"tour", "error 4"}, line{"blocks", "error 4"}, line{"blocks zz", "error 4"}, line{"blocks m", "error 4"},
			line{"path 0", "error 4"}, line{"path 99999", "error 4"}, line{"path -1", "error 4"}, line{"path x", "error 3"},
			line{"check a", "error 4"}, line{"check zz", "error 4"}, line{"check Bad", "error 5"}, line{"check", "error 3"},
			line{"answers 1 a , m", "error 4"}, line{"answers 21 a , m", "error 4"}, line{"answers 1 zz , m", "error 4"}, line{"answers x a , m", "error 3"}, line{"answers 21 a , Bad", "error 5"}, line{"answers -1 Bad , a", "error 5"}, line{"answers 21 a", "error 3"},
			line{"induct 1 a", "error 4"}, line{"induct 0 a", "error 4"}, line{"induct 1 zz", "error 4"}, line{"induct x a", "error 3"}, line{"induct 0 Bad", "error 5"}, line{"induct 0", "error 3"},
			// These need no machine.
			line{"lines", strings.TrimPrefix(p.asks, "program ")}, line{"pairs a", "a 0 1"}, line{"solve a", "1"}, line{"same a , a", "1"}, line{"help", helpText},
			line{"tidy", p.tells}, line{"lines", strings.Replace(strings.TrimPrefix(p.asks, "program "), "!!", "", 1)},
		)
	}
	talk(t, line{wide, "8 1"}, line{"scan 1100000", "11000001 0 0 0 0 0 0 0 0"}, line{"scan 110000", "error 2"}, line{"slice a", "7 0"}, line{"states", "error 4"}, line{"slice zz", "error 7"})
}

const helpText = "answers blocks check clear far help induct lines pairs path program same scan slice solve states tidy tour"

// At first there is a program without names and rungs.
func TestAtFirst(t *testing.T) {
	for _, before := range [][]line{nil, {held, {"scan 1", "110 0 0 1"}, {"clear", "clear"}}, {held, {"slice m", "3 3"}, {"clear", "clear"}, {"clear", "clear"}}, {{"program", "0 0"}}, {held, {"program ;", "0 0"}}} {
		talk(t, append(before,
			line{"lines", ""}, line{"states", "1 1"}, line{"far", "0"}, line{"path 0", ""}, line{"path 1", "error 2"}, line{"scan", ""}, line{"scan", ""}, line{"scan 0", "error 2"},
			line{"check 1", "holds"}, line{"check 0", "0"}, line{"check a", "error 7"}, line{"answers 2 1 , 0", "0 0 0"}, line{"answers 2 0 , 0", "holds"}, line{"induct 3 1", "1 1"}, line{"induct 3 0", "2 1 0"},
			line{"blocks", "0"}, line{"blocks a", "error 7"}, line{"slice", "0 0"}, line{"slice a", "error 7"}, line{"tidy", "0 0"}, line{"tour", "0"})...)
	}
}

func TestProgram(t *testing.T) {
	talk(t,
		line{"program", "0 0"}, line{"lines", ""}, line{"program ;;  ; ", "0 0"},
		line{"program input a", "1 0"}, line{"lines", "input a"},
		line{"program input a;coil m;set m=a", "2 1"}, line{"lines", "input a; coil m; set m = a"},
		line{"program   input a ;; coil   m;;;m = ! a|m ;", "2 1"}, line{"lines", "input a; coil m; m = !a | m"},
		line{"program ;coil m; m = 1;", "1 1"}, line{"lines", "coil m; m = 1"},
		line{"program coil m;; m = 1; ", "1 1"},
		line{"program counter c 3;timer t 7;run t=c;count c=1;zero c=t;run t=^c", "2 4"}, line{"lines", "counter c 3; timer t 7; run t = c; count c = 1; zero c = t; run t = ^c"},
		line{"program coil m; reset m = (m & (m & m)) | ~m", "1 1"}, line{"lines", "coil m; reset m = m & (m & m) | ~m"},
	)
	// Whatever is wrong, the program is the one that was there, and so is its state.
	lines := []line{held, {"scan 1", "110 0 0 1"}}
	for _, wrong := range []line{
		{"program x", "error 3"}, {"program coil", "error 3"}, {"program coil m n", "error 3"}, {"program coil m m = 1", "error 3"}, {"program coil m; m = (", "error 3"}, {"program coil m; m = 1; coil n", "error 3"}, {"program timer t 07", "error 3"},
		{"program timer t 8", "error 2"}, {"program timer t 0", "error 2"}, {"program counter t -1", "error 2"},
		{"program coil M", "error 5"}, {"program coil m; m = M", "error 5"}, {"program coil timer", "error 5"},
		{"program coil m; coil m", "error 9"}, {"program coil m; m = n", "error 7"}, {"program coil m; n = m", "error 7"}, {"program input a; a = 1", "error 1"}, {"program coil m; run m = 1", "error 1"},
		{"program " + names(13), "error 4"}, {"program coil m" + strings.Repeat("; m = 1", 41), "error 4"}, {"program coil m; m = " + strings.Repeat("!", 20) + "1", "error 4"},
	} {
		lines = append(lines, wrong, line{"lines", "input a; coil m; timer t 2; set m = a; run t = m; reset m = t"})
	}
	talk(t, append(lines, line{"scan 1", "101 0 0 2"})...)
	talk(t, line{"program " + names(12), "12 0"}, line{"lines", names(12)}, line{"program coil m" + strings.Repeat("; m = 1", 40), "1 40"})
}

// names is so many coils, c0 and on.
func names(many int) string {
	var l []string
	for k := range many {
		l = append(l, "coil c"+strconv.Itoa(k))
	}
	return strings.Join(l, "; ")
}

func TestScan(t *testing.T) {
	talk(t,
		held,
		line{"scan 1", "110 0 0 1"}, line{"scan 1", "101 0 0 2"}, line{"scan 0", "000 0 0 0"}, line{"scan 0", "000 0 0 0"}, line{"scan 1", "110 0 0 1"},
		// What is wrong changes nothing.
		line{"scan", "error 2"}, line{"scan 01", "error 2"}, line{"scan 2", "error 3"}, line{"scan x", "error 3"}, line{"scan -1", "error 3"}, line{"scan 012", "error 3"}, line{"scan 1,", "error 3"}, line{"scan \xff", "error 3"}, line{"scan 1\x001", "error 3"}, line{"scan 1 1", "error 3"}, line{"scan " + strings.Repeat("1", 5_000), "error 2"},
		line{"scan 0", "001 0 0 2"}, line{"scan 0", "000 0 0 0"},
		// Nor do lines that ask.
		line{"scan 1", "110 0 0 1"}, line{"states", "6 2"}, line{"check !t", "1 0"}, line{"tour", "0 1 0 0 1 1 1"}, line{"lines", "input a; coil m; timer t 2; set m = a; run t = m; reset m = t"}, line{"blocks m", "0 1 2 3 2 3"}, line{"pairs a", "a 0 1"}, line{"", "ok"}, line{"help", helpText},
		line{"scan 1", "101 0 0 2"},
	)
	talk(t,
		line{"program coil m; counter c 3; m = !m; count c = m", "2 2"},
		line{"scan", "10 0 1"}, line{"scan 0", "error 2"}, line{"scan", "00 0 1"}, line{"scan", "10 0 2"}, line{"scan", "00 0 2"}, line{"scan", "11 0 3"}, line{"scan", "01 0 3"},
	)
	talk(t,
		line{"program coil m; input a; input b; coil n; m = a; n = b & ^a", "4 2"},
		line{"scan 10", "1100 0 0 0 0"}, line{"scan 01", "0010 0 0 0 0"}, line{"scan 11", "1111 0 0 0 0"}, line{"scan 11", "1110 0 0 0 0"},
	)
}

// The state is Start whenever a line makes it the program, be it the same.
func TestTheStateBegins(t *testing.T) {
	begins := line{"scan 1", "110 0 0 1"}
	talk(t,
		held, begins, line{"scan 1", "101 0 0 2"},
		held, begins,
		line{"tidy", "3 3"}, begins,
		line{"slice m t", "3 3"}, begins,
		line{"slice a m t", "3 3"}, begins,
		line{"slice zz", "error 7"}, line{"program x", "error 3"}, line{"scan 1", "101 0 0 2"},
		line{"clear", "clear"}, held, begins,
	)
}

func TestStates(t *testing.T) {
	talk(t,
		held, line{"states", "6 2"},
		line{"program input a; coil m; set m = a", "2 1"}, line{"states", "2 2"},
		line{"program input a; coil m; set m = ^a", "2 1"}, line{"states", "4 2"},
		line{"program input a; input b; input c; input d; input e; input f", "6 0"}, line{"states", "1 64"},
		line{"program counter a 7; counter b 7; counter c 7; counter d 7", "4 0"}, line{"states", "4096 1"},
		line{"program " + names(12), "12 0"}, line{"states", "4096 1"}, line{"clear", "clear"}, line{"states", "1 1"},
		line{"program x", "error 3"}, line{"states", "1 1"},
	)
}

func TestFarAndPath(t *testing.T) {
	talk(t,
		held,
		line{"far", "0 -1 -1 1 2 -1"},
		line{"path 0", ""}, line{"path 1", "error 8"}, line{"path 2", "error 8"}, line{"path 3", "1"}, line{"path 4", "1 0"}, line{"path 5", "error 8"}, line{"path 6", "error 2"},
		line{"program input a; timer t 3; run t = a", "2 1"}, line{"far", "0 1 2 3"}, line{"path 3", "1 1 1"},
		line{"slice", "1 0"}, line{"far", "0"}, line{"path 1", "error 2"},
		line{"program input a; input b; coil m; m = !a & b", "3 1"}, line{"path 1", "2"},
	)
}

func TestCheck(t *testing.T) {
	talk(t,
		held,
		line{"check !t | !m", "holds"}, line{"check !t", "1 0"}, line{"check !m", "1"}, line{"check 0", "0"}, line{"check 1", "holds"}, line{"check !~t", "1 0 0"}, line{"check !(t & a)", "1 1"},
		line{"check zz", "error 7"}, line{"check a & ^zz", "error 7"}, line{"check 0 & zz", "error 7"},
		line{"program input a; coil m; set m = a", "2 1"}, line{"check !a | m", "holds"}, line{"check !m", "1"}, line{"check t", "error 7"},
	)
}

func TestAnswers(t *testing.T) {
	talk(t,
		held,
		line{"answers 2 a , t", "holds"}, line{"answers 1 a , t", "holds"}, line{"answers 0 a , t", "1"}, line{"answers 0 t,!m", "holds"}, line{"answers 3 m , 0", "1 0 0 0"}, line{"answers 1 t , m", "1 0 0"}, line{"answers 20 1 , a", "0 0 0 0 0 0 0 0 0 0 0 0 0 0 0 0 0 0 0 0 0"},
		line{"answers 20 a , a", "holds"}, line{"answers 21 a , a", "error 2"}, line{"answers -1 a , a", "error 2"},
		line{"answers 21 zz , a", "error 2"}, line{"answers 1 zz , a", "error 7"}, line{"answers 1 a , zz", "error 7"}, line{"answers 9223372036854775807 a , a", "error 2"},
	)
}

func TestInduct(t *testing.T) {
	talk(t,
		held,
		line{"induct 3 !t | !m", "1 1"}, line{"induct 2 !t", "2 2 1 0"}, line{"induct 1 !m", "2 1 1"}, line{"induct 50 1", "1 1"}, line{"induct 1 !t", "3 1"},
		line{"induct 0 a", "error 2"}, line{"induct 51 a", "error 2"}, line{"induct -5 a", "error 2"}, line{"induct 1 zz", "error 7"},
		// Names are told ahead of how many scans.
		line{"induct 0 zz", "error 7"}, line{"induct 51 zz", "error 7"},
		// It is shown by 7 scans in a row, no fewer: in states that are never come to c counts.
		line{"program counter c 7; counter d 1; count c = d", "2 1"}, line{"induct 1 !c", "3 1"}, line{"induct 6 !c", "3 6"}, line{"induct 7 !c", "1 7"}, line{"induct 50 !c", "1 7"},
	)
}

func TestBlocks(t *testing.T) {
	talk(t,
		held,
		line{"blocks", "0 0 0 0 0 0"}, line{"blocks m t", "0 1 2 3 2 3"}, line{"blocks t m", "0 1 2 3 2 3"}, line{"blocks a", "0 0 0 0 0 0"}, line{"blocks m m m", "0 1 2 3 2 3"},
		line{"blocks z", "error 7"}, line{"blocks m z", "error 7"}, line{"blocks Bad", "error 7"}, line{"blocks m , t", "error 7"},
		line{"blocks" + strings.Repeat(" m", 12), "0 1 2 3 2 3"}, line{"blocks" + strings.Repeat(" m", 13), "error 4"}, line{"blocks" + strings.Repeat(" z", 13), "error 4"},
		line{"program counter c 7; counter d 7; counter e 6", "3 0"}, line{"blocks c", strings.TrimSuffix(strings.Repeat("0 0 0 0 0 0 0 1 ", 56), " ")},
		line{"program counter c 7; counter d 7; counter e 7", "3 0"}, line{"states", "512 1"}, line{"blocks c", "error 4"}, line{"blocks z", "error 4"},
	)
}

func TestSlice(t *testing.T) {
	p := line{"program input a; coil m; coil n; timer t 2; coil k; input b; m = a; n = !m; run t = n; k = b & k", "6 4"}
	talk(t,
		p, line{"slice m", "3 1"}, line{"lines", "input a; coil m; input b; m = a"}, line{"states", "2 4"},
		p, line{"slice t", "5 3"}, line{"lines", "input a; coil m; coil n; timer t 2; input b; m = a; n = !m; run t = n"},
		p, line{"slice k m", "4 2"}, line{"lines", "input a; coil m; coil k; input b; m = a; k = b & k"},
		line{"slice k", "3 1"}, line{"slice n", "error 7"}, line{"lines", "input a; coil k; input b; k = b & k"}, line{"slice k k k", "3 1"},
		p, line{"slice", "2 0"}, line{"lines", "input a; input b"},
		p, line{"slice zz", "error 7"}, line{"slice m zz", "error 7"}, line{"slice Bad", "error 7"}, line{"lines", strings.TrimPrefix(p.asks, "program ")},
	)
}

func TestTidy(t *testing.T) {
	talk(t,
		line{"program input a; coil m; set m = a & !!a & 1; reset m = a & !a; m = 0; counter", "error 3"},
		line{"program input a; coil m; set m = a & !!a & 1; reset m = a & !a; m = a & 0", "2 3"},
		line{"tidy", "2 2"}, line{"lines", "input a; coil m; set m = a; m = 0"}, line{"tidy", "2 2"}, line{"lines", "input a; coil m; set m = a; m = 0"},
		line{"scan 1", "10 0 0"},
		// What is tidy asks for fewer edges: so there are fewer states.
		line{"program input a; coil m; set m = ^a & 0 | m", "2 1"}, line{"states", "4 2"}, line{"tidy", "2 1"}, line{"states", "2 2"},
	)
}

func TestTour(t *testing.T) {
	talk(t,
		held, line{"tour", "0 1 0 0 1 1 1"},
		line{"program input a; timer t 2; run t = a", "2 1"}, line{"tour", "0 1 0 1 1 0 1 1 1"},
		line{"program input a; coil m; m = 1", "2 1"}, line{"tour", "0 0 1 -1"},
		line{"program input a; counter c 2; count c = 1", "2 1"}, line{"tour", "0 0 0 1 -1"},
		line{"program input a; input b; input c; counter x 4; counter y 4; counter z 4; count x = a; count y = b; count z = c", "6 3"}, line{"tour", "error 4"},
	)
}

func TestPairs(t *testing.T) {
	talk(t,
		line{"pairs a & b", "a 2 3, b 1 3"}, line{"pairs a", "a 0 1"}, line{"pairs a | !a", ""}, line{"pairs 1", ""}, line{"pairs !(b & a) | c", "a 2 3, b 1 3, c 3 7"},
		line{"pairs a&b&c&d&e&f&g&h", "a 254 255, b 253 255, c 251 255, d 247 255, e 239 255, f 223 255, g 191 255, h 127 255"},
		line{"pairs a&b&c&d&e&f&g&h&i", "error 4"}, line{"pairs ^a", "error 1"}, line{"pairs a&b&c&d&e&f&g&h&~i", "error 1"}, line{"pairs", "error 3"}, line{"pairs a b", "error 3"}, line{"pairs A", "error 5"}, line{"pairs a , b", "error 3"},
	)
}

func TestSolve(t *testing.T) {
	talk(t,
		line{"solve a & !b", "10"}, line{"solve a", "1"}, line{"solve !a", "0"}, line{"solve a | b", "11"}, line{"solve !(b & a)", "10"}, line{"solve 1", ""}, line{"solve 0", "error 8"}, line{"solve a & !a", "error 8"},
		// Names are told ahead of what edges were.
		line{"solve ^a", "10"}, line{"solve ~a", "01"}, line{"solve ~b & a", "101"}, line{"solve a & ^b & ~c", "11001"}, line{"solve ^a & ~a", "error 8"},
		line{"solve", "error 3"}, line{"solve (", "error 3"}, line{"solve A", "error 5"}, line{"solve a , b", "error 3"},
		line{"solve " + strings.Repeat("a & ", 298) + "b", "11"}, line{"solve " + strings.Repeat("a & ", 299) + "b", "error 4"},
	)
}

func TestSame(t *testing.T) {
	talk(t,
		line{"same a & b, b & a", "1"}, line{"same a, b", "0"}, line{"same ^a , a & !~a", "0"}, line{"same 1 , a | !a", "1"}, line{"same !(a | b) , !a & !b", "1"}, line{"same ^a & ~a , 0", "1"}, line{"same a , !a", "0"},
		// Size is counted of both put together, twice each, and 5 besides.
		line{"same " + strings.Repeat("a & ", 71) + "b , " + strings.Repeat("b & ", 71) + "a", "1"}, line{"same " + strings.Repeat("a & ", 72) + "b , " + strings.Repeat("b & ", 72) + "a", "error 4"},
	)
}

// A session is nobody else's: what one did is not there in the next one.
func TestSessionsAreTheirOwn(t *testing.T) {
	for range 3 {
		talk(t, line{"lines", ""}, line{"scan", ""}, held, line{"scan 1", "110 0 0 1"})
	}
}
