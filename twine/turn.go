package twine

import (
	"slices"
	"strings"
)

func turned(data string) string {
	next := nextPlaces(data)
	ranks := readingRanks(data, next)
	// A byte is told for the place behind it. Where ranks are the same the
	// bytes are too, so it does no harm that they are sorted as well.
	rows := make([]pair, len(data))
	for place := range rows {
		rows[place] = pair{ranks[next[place]], int(data[place])}
	}
	slices.SortFunc(rows, comparePairs)
	var text strings.Builder
	for _, row := range rows {
		text.WriteByte(byte(row[1]))
	}
	return text.String()
}

// nextPlaces tells for each place the one that is read behind it, going round
// in its word.
func nextPlaces(data string) []int {
	var next []int
	for _, word := range cutWords(data) {
		start := len(next)
		for i := range len(word) {
			next = append(next, start+(i+1)%len(word))
		}
	}
	return next
}

// readingRanks ranks places by what is read from them, on and on. It looks at
// len(data) bytes or more: two words that go round are told apart within as
// many bytes as both have together, two places of one word within its length.
func readingRanks(data string, next []int) []int {
	ranks := make([]int, len(data))
	for place := range ranks {
		ranks[place] = int(data[place])
	}
	for read := 1; read < len(data); read *= 2 {
		ranks, next = readTwice(ranks, next)
	}
	return ranks
}

// readTwice takes ranks by so many bytes, and the places so many bytes on, to
// those of twice as many.
func readTwice(ranks, on []int) (twiceRanks, twiceOn []int) {
	pairs := make([]pair, len(on))
	twiceOn = make([]int, len(on))
	for place, further := range on {
		pairs[place] = pair{ranks[place], ranks[further]}
		twiceOn[place] = on[further]
	}
	return ranksOf(pairs), twiceOn
}

// turnedBack goes through the rows that turned has sorted. What is read one
// place ahead begins with the row's byte and goes on with the row itself, so
// it is sorted by that byte and then by the row. Going ahead again and again
// comes round through one word, from its end; the least row of all that are
// left begins the least word, and the least words stand last.
func turnedBack(data string) string {
	ahead := rowsAhead(data)
	text := make([]byte, len(data))
	met := make([]bool, len(data))
	end := len(data)
	for first := range met {
		for row := first; !met[row]; row = ahead[row] {
			met[row] = true
			end--
			text[end] = data[row]
		}
	}
	var told strings.Builder
	told.Write(text)
	return told.String()
}

func rowsAhead(data string) []int {
	pairs := make([]pair, len(data))
	for row := range pairs {
		pairs[row] = pair{int(data[row]), row}
	}
	return ranksOf(pairs)
}
