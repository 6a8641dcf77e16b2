package expr

import (
	"strings"

	"signalcabin/api"
)

const (
	maxText  = 2_000
	maxName  = 8
	wordEnds = " &|!^~()="

	// textEnd is the sign that stands for none: blanks are passed over, so no sign is one.
	textEnd = ' '
)

// Name says whether a text may be one: 1 to 8 of a to z, 0 to 9 and _, a letter first, but no word of the language.
func Name(s string) bool {
	if len(s) == 0 || len(s) > maxName || !isLetter(s[0]) {
		return false
	}
	for i := range len(s) {
		if !isLetter(s[i]) && !isDigit(s[i]) && s[i] != '_' {
			return false
		}
	}
	return !isKept(s)
}

func isLetter(c byte) bool { return c >= 'a' && c <= 'z' }

func isDigit(c byte) bool { return c >= '0' && c <= '9' }

// isKept says whether a word is one that programs are written with.
func isKept(word string) bool {
	switch word {
	case "input", "coil", "timer", "counter", "set", "reset", "run", "count", "zero":
		return true
	}
	return false
}

// Parse reads an expression. Errors are an At at a byte, but for a text that is too long.
func Parse(text string) (Expr, error) {
	if len(text) > maxText {
		return nil, api.ErrLimit
	}
	r := &reader{text: text}
	e, err := r.whole()
	if err != nil {
		return nil, err
	}
	if r.sign() != textEnd {
		return nil, r.wrong(api.ErrForm)
	}
	return e, nil
}

// reader goes through a text from the left.
type reader struct {
	text string
	at   int // the first byte that is not read yet
	deep int // how many ! and parentheses stand around
}

// sign passes over blanks; it is the first byte of the sign behind them, which is not read yet.
func (r *reader) sign() byte {
	for r.at < len(r.text) && r.text[r.at] == ' ' {
		r.at++
	}
	if r.at == len(r.text) {
		return textEnd
	}
	return r.text[r.at]
}

func (r *reader) wrong(what api.Errno) error {
	return &api.At{Err: what, Place: r.at}
}

func (r *reader) whole() (Expr, error) {
	l, err := r.list('|', r.part)
	if err != nil {
		return nil, err
	}
	if len(l) == 1 {
		return l[0], nil
	}
	return Or(l), nil
}

func (r *reader) part() (Expr, error) {
	l, err := r.list('&', r.piece)
	if err != nil {
		return nil, err
	}
	if len(l) == 1 {
		return l[0], nil
	}
	return And(l), nil
}

// list reads one, and one more behind each such sign.
func (r *reader) list(between byte, read func() (Expr, error)) ([]Expr, error) {
	var l []Expr
	for {
		e, err := read()
		if err != nil {
			return nil, err
		}
		l = append(l, e)
		if r.sign() != between {
			return l, nil
		}
		r.at++
	}
}

func (r *reader) piece() (Expr, error) {
	sign := r.sign()
	// Ahead of what stands here: it is too deep even where no piece begins, though one should.
	if r.deep > api.MaxDeep-1 {
		return nil, r.wrong(api.ErrLimit)
	}
	switch sign {
	case '!':
		return r.not()
	case '(':
		return r.inParentheses()
	case '0', '1':
		r.at++
		return Const(sign == '1'), nil
	case '^':
		r.at++
		return r.named(func(name string) Expr { return Rise(name) })
	case '~':
		r.at++
		return r.named(func(name string) Expr { return Fall(name) })
	}
	return r.named(func(name string) Expr { return Bit(name) })
}

func (r *reader) not() (Expr, error) {
	of, err := r.deeper(r.piece)
	if err != nil {
		return nil, err
	}
	return Not{of}, nil
}

func (r *reader) inParentheses() (Expr, error) {
	e, err := r.deeper(r.whole)
	if err != nil {
		return nil, err
	}
	if r.sign() != ')' {
		return nil, r.wrong(api.ErrForm)
	}
	r.at++
	return e, nil
}

// deeper passes over a sign of one byte, and reads what it stands around.
func (r *reader) deeper(read func() (Expr, error)) (Expr, error) {
	r.at++
	r.deep++
	e, err := read()
	r.deep--
	return e, err
}

// named reads a name, and is what is made of it.
func (r *reader) named(made func(name string) Expr) (Expr, error) {
	sign := r.sign()
	if sign == '0' || sign == '1' || endsWord(sign) {
		return nil, r.wrong(api.ErrForm)
	}
	end := r.at
	for end < len(r.text) && !endsWord(r.text[end]) {
		end++
	}
	name := r.text[r.at:end]
	if !Name(name) {
		return nil, r.wrong(api.ErrName)
	}
	r.at = end
	return made(strings.Clone(name)), nil // else each name would hold the whole text
}

func endsWord(c byte) bool { return strings.IndexByte(wordEnds, c) >= 0 }
