package warden

import (
	"iter"
	"strconv"
	"strings"

	"aguador/api"
)

// written returns a word, and numbers behind it.
func written(word string, numbers ...int) string {
	l := []string{word}
	for _, n := range numbers {
		l = append(l, strconv.Itoa(n))
	}
	return strings.Join(l, " ")
}

// rows returns strings with a byte 10 behind each one.
func rows(l ...string) string {
	s := ""
	for _, x := range l {
		s += x + "\n"
	}
	return s
}

// words yields those between spaces, each with its index; where two spaces are together there is an empty one.
func words(line string) iter.Seq2[int, string] {
	return func(yield func(int, string) bool) {
		rest, more := line, true
		for at := 0; more; at++ {
			var word string
			word, rest, more = strings.Cut(rest, " ")
			if !yield(at, word) {
				return
			}
		}
	}
}

// number returns what a word tells in decimal digits, if it is no more than most; otherwise it throws an error.
func number(word string, most int, e api.Errno) int {
	throwIf(word == "", e)
	n := 0
	for at, c := range word {
		throwIf(c < '0' || c > '9' || at > 0 && n == 0, e)
		digit := int(c - '0')
		throwIf(n > (most-digit)/10, e)
		n = 10*n + digit
	}
	return n
}

// told returns the first word of a line, and the numbers behind it, none of them more than most; otherwise it throws an error.
func told(line string, most int, e api.Errno) (word string, numbers []int) {
next:
	for at, x := range words(line) {
		if at == 0 {
			word = x
			continue next
		}
		numbers = append(numbers, number(x, most, e))
	}
	return word, numbers
}

// hear returns the deed that a line tells. The verb 0 has the empty word, and is that of no deed.
func hear(line string) api.Deed {
	word, numbers := told(line, api.MaxSaid, api.ErrSpeak)
	all := verbs()
	at := first(all[:], api.ErrSpeak, func(x verb) bool { return x.word == word })
	d := api.Deed{Verb: at, Args: numbers}
	throwIf(!isDeed(d), api.ErrSpeak)
	return d
}

// hearAll returns the deeds of lines, each with a byte 10 behind it.
func hearAll(s string) []api.Deed {
	var l []api.Deed
	for s != "" {
		line, rest, ends := strings.Cut(s, "\n")
		throwIf(!ends, api.ErrSpeak)
		l = append(l, hear(line))
		s = rest
	}
	return l
}
