package desk

import (
	"slices"
	"strconv"
	"strings"

	"lessonbook/api"
)

const (
	maxText   = 65536 // bytes
	maxDigits = 10
)

// linesOf cuts a text into its lines; ErrLarge, if it is too long, or has too
// many of them.
func linesOf(text string) ([]string, api.Errno) {
	if len(text) > maxText {
		return nil, api.ErrLarge
	}
	lines := strings.Split(text, "\n")
	// What stands behind the last byte 10 is a line only if it isn't empty.
	if last := len(lines) - 1; lines[last] == "" {
		lines = lines[:last]
	}
	if len(lines) > api.MaxScript {
		return nil, api.ErrLarge
	}
	return lines, api.OK
}

// wordsOf cuts a line at blanks alone: other white space is part of a word.
func wordsOf(line string) []string {
	var words []string
	for _, piece := range strings.Split(line, " ") {
		if piece != "" {
			words = append(words, piece)
		}
	}
	return words
}

// isSilent: is a line of these words not answered?
func isSilent(words []string) bool {
	return len(words) == 0 || strings.HasPrefix(words[0], "#")
}

// exampleOf reads what stands behind `data`. A second `/` is no number.
func exampleOf(words []string) (api.Example, bool) {
	cut := slices.Index(words, "/")
	if cut < 0 {
		return api.Example{}, false
	}
	in, inOK := numbersOf(words[:cut])
	out, outOK := numbersOf(words[cut+1:])
	if !inOK || !outOK {
		return api.Example{}, false
	}
	return api.Example{In: in, Out: out}, true
}

func numbersOf(words []string) ([]int, bool) {
	l := make([]int, len(words))
	for i, word := range words {
		n, ok := numberOf(word)
		if !ok {
			return nil, false
		}
		l[i] = n
	}
	return l, true
}

// numberOf reads a number as it is told. There is one word for each: what
// reads as the same number, but has a `+` or noughts ahead, is another word.
func numberOf(word string) (int, bool) {
	if len(strings.TrimPrefix(word, "-")) > maxDigits {
		return 0, false
	}
	n, err := strconv.Atoi(word)
	if err != nil || strconv.Itoa(n) != word {
		return 0, false
	}
	return n, true
}
