package store

import (
	"strconv"
	"strings"

	"lessonbook/api"
)

// places: what Step and the numbers of Batch stay below.
const places = 100

// plainWords is how many words of a line stand ahead of Batch.
const plainWords = 4

// longest is how many bytes the longest line has.
const longest = len("99 2147483647 2305843009213693950 2305843009213693950 99 99 99 99 99 99 99 99\n")

// Print: P23.
func Print(r api.Record) (string, api.Errno) {
	if !printable(r) {
		return "", api.ErrForm
	}
	words := []string{
		strconv.Itoa(r.Step),
		strconv.Itoa(r.Rate),
		strconv.FormatUint(r.Root, 10),
		strconv.FormatUint(r.Chain, 10),
	}
	for _, b := range r.Batch {
		words = append(words, strconv.Itoa(b))
	}
	return strings.Join(words, " ") + "\n", api.OK
}

// Parse: P23.
func Parse(s string) (api.Record, int, api.Errno) {
	// Whatever is longer is no line: a text without a byte 10 is not gone
	// through, however long it is.
	line, _, ends := strings.Cut(s[:min(len(s), longest)], "\n")
	if !ends {
		return api.Record{}, 0, api.ErrForm
	}
	r, ok := read(strings.Split(line, " "))
	if !ok {
		return api.Record{}, 0, api.ErrForm
	}
	// There is one line for a record: what reads as the same numbers, but has
	// noughts ahead, or a number that wrapped round, is another text.
	told, e := Print(r)
	if e != api.OK || told != line+"\n" {
		return api.Record{}, 0, api.ErrForm
	}
	return r, len(told), api.OK
}

// printable: is each part of a record within its bounds?
func printable(r api.Record) bool {
	if !isPlace(r.Step) || r.Rate < 0 || r.Rate > api.Most {
		return false
	}
	if r.Root >= api.P || r.Chain >= api.P || len(r.Batch) > api.MaxBatch {
		return false
	}
	for _, b := range r.Batch {
		if !isPlace(b) {
			return false
		}
	}
	return true
}

// isPlace: is n from 0 to 99?
func isPlace(n int) bool { return 0 <= n && n < places }

// read makes a record of a line's words; Print says whether it is right.
func read(words []string) (api.Record, bool) {
	if len(words) < plainWords {
		return api.Record{}, false
	}
	numbers := make([]uint64, len(words))
	for i, word := range words {
		n, err := strconv.ParseUint(word, 10, 64)
		if err != nil {
			return api.Record{}, false
		}
		numbers[i] = n
	}
	r := api.Record{Step: int(numbers[0]), Rate: int(numbers[1]), Root: numbers[2], Chain: numbers[3]}
	for _, n := range numbers[plainWords:] {
		r.Batch = append(r.Batch, int(n))
	}
	return r, true
}
