package ladder

import (
	"iter"
	"strconv"
	"strings"

	"signalcabin/api"
	"signalcabin/expr"
)

const (
	blank    = " "
	lineFeed = "\n"
	equals   = "="
)

// The words that lines begin with, by kind. No word is empty: a kind that has none is never found.
var (
	nameWords = [...]string{Input: "input", Coil: "coil", Timer: "timer", Counter: "counter"}
	rungWords = [...]string{Set: "set", Reset: "reset", Run: "run", Count: "count", Zero: "zero"}
)

// Text writes a program: a line for each name (input N, coil N, timer N COUNT, counter N COUNT), then for each rung (N = E, set N = E, reset, run, count, zero likewise). One that may not be is empty.
func Text(p Program) string {
	if Check(p) != nil {
		return ""
	}
	var b strings.Builder
	for _, n := range p.Names {
		writeName(&b, n)
	}
	for _, r := range p.Rungs {
		writeRung(&b, r)
	}
	return b.String()
}

func writeName(b *strings.Builder, n Name) {
	b.WriteString(nameWords[n.Kind])
	b.WriteString(blank)
	b.WriteString(n.Name)
	if isCounted(n.Kind) {
		b.WriteString(blank)
		b.WriteString(strconv.Itoa(n.Count))
	}
	b.WriteString(lineFeed)
}

func writeRung(b *strings.Builder, r Rung) {
	if r.Kind != Sets {
		b.WriteString(rungWords[r.Kind])
		b.WriteString(blank)
	}
	b.WriteString(r.Name)
	b.WriteString(blank + equals + blank)
	b.WriteString(expr.Text(r.If))
	b.WriteString(lineFeed)
}

// Parse reads lines, blank ones left out, rungs behind names. Errors are an At at a byte: in an expression its own; else a line's first.
func Parse(text string) (Program, error) {
	if len(text) > api.MaxText {
		return Program{}, api.ErrLimit
	}
	var r reading
	for start, line := range lines(text) {
		if err := r.take(start, line); err != nil {
			return Program{}, err
		}
	}
	if err := Check(r.program); err != nil {
		return Program{}, r.inText(err)
	}
	return r.program, nil
}

// lines are those that are not of blanks alone, each with the place of its first byte.
func lines(text string) iter.Seq2[int, string] {
	return func(yield func(int, string) bool) {
		start := 0
		for line := range strings.SplitSeq(text, lineFeed) {
			if strings.Trim(line, blank) != "" && !yield(start, line) {
				return
			}
			start += len(line) + len(lineFeed)
		}
	}
}

// words are what stands between blanks, in memory of their own: a name is kept, and should not hold the whole text.
func words(line string) []string {
	var l []string
	for word := range strings.SplitSeq(line, blank) {
		if word != "" {
			l = append(l, strings.Clone(word))
		}
	}
	return l
}

// reading is what was read so far.
type reading struct {
	program Program
	starts  []int // the first bytes of the lines of names, then of rungs
}

func (r *reading) take(start int, line string) error {
	r.starts = append(r.starts, start)
	head, text, isRung := strings.Cut(line, equals)
	if !isRung {
		return r.takeName(start, line)
	}
	return r.takeRung(start, head, text)
}

func (r *reading) takeName(start int, line string) error {
	n, ok := readName(words(line))
	if !ok || len(r.program.Rungs) > 0 {
		return formAt(start)
	}
	r.program.Names = append(r.program.Names, n)
	return nil
}

func readName(l []string) (Name, bool) {
	if len(l) < 2 {
		return Name{}, false
	}
	n := Name{Name: l[1]}
	for kind, word := range nameWords {
		if word == l[0] {
			n.Kind = kind
		}
	}
	if !isCounted(n.Kind) {
		return n, n.Kind != 0 && len(l) == 2
	}
	if len(l) != 3 {
		return Name{}, false
	}
	var ok bool
	n.Count, ok = readCount(l[2])
	return n, ok
}

// readCount takes a number only as it would be written: so there is no nought ahead, no +, and no nought below 0.
func readCount(word string) (int, bool) {
	n, err := strconv.Atoi(word)
	return n, err == nil && strconv.Itoa(n) == word
}

func (r *reading) takeRung(start int, head, text string) error {
	rung, ok := readHead(words(head))
	if !ok {
		return formAt(start)
	}
	var err error
	rung.If, err = expr.Parse(text)
	if err != nil {
		return moved(err, start+len(head)+len(equals))
	}
	r.program.Rungs = append(r.program.Rungs, rung)
	return nil
}

// readHead reads what stands ahead of =. Any word may stand for a name: whether it is one, Check says.
func readHead(l []string) (Rung, bool) {
	switch len(l) {
	case 1:
		return Rung{Kind: Sets, Name: l[0]}, true
	case 2:
		for kind, word := range rungWords {
			if word == l[0] {
				return Rung{Kind: kind, Name: l[1]}, true
			}
		}
	}
	return Rung{}, false
}

func formAt(start int) error { return &api.At{Err: api.ErrForm, Place: start} }

// moved is an expression's error within the whole text, where the expression begins at this byte. One without a place is of the whole expression.
func moved(err error, start int) error {
	if at, ok := err.(*api.At); ok {
		return &api.At{Err: at.Err, Place: start + at.Place}
	}
	return &api.At{Err: api.Tell(err), Place: start}
}

// inText is what Check says, at a line's first byte in place of the line's number.
func (r *reading) inText(err error) error {
	if at, ok := err.(*api.At); ok {
		return &api.At{Err: at.Err, Place: r.starts[at.Place]}
	}
	return err
}
