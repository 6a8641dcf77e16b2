package desk

import (
	"strconv"
	"strings"

	"signalcabin/cover"
)

// numbers are told with a blank between.
func numbers(l ...int) string { return joined(digits(l)...) }

func joined(words ...string) string { return strings.Join(words, blank) }

func digits(l []int) []string {
	words := make([]string, len(l))
	for k, n := range l {
		words[k] = strconv.Itoa(n)
	}
	return words
}

// bits are told without blanks.
func bits(l []bool) string {
	b := make([]byte, len(l))
	for k, is := range l {
		b[k] = bit(is)
	}
	return string(b)
}

func bit(is bool) byte {
	if is {
		return '1'
	}
	return '0'
}

// verdict is that it holds, or the inputs by which it doesn't.
func verdict(holds bool, inputs []int, err error) string {
	throw(err)
	if holds {
		return "holds"
	}
	return numbers(inputs...)
}

func pair(p cover.Pair) string {
	return joined(p.Name, strconv.FormatUint(uint64(p.Off), 10), strconv.FormatUint(uint64(p.On), 10))
}
