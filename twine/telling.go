package twine

import "strings"

// maxTold is the greatest number that a telling has: a byte and 1.
const maxTold = 256

func tellingOf(places string) []int {
	var telling []int
	for i := 0; i < len(places); {
		if places[i] != 0 {
			telling = append(telling, int(places[i])+1)
			i++
			continue
		}
		run := countRun(places[i:])
		telling = append(telling, 1, run)
		i += run
	}
	return telling
}

// countRun tells how many bytes 0 a text begins with.
func countRun(text string) int {
	return len(text) - len(strings.TrimLeft(text, "\x00"))
}

// placesTold reads a telling until it has told so many places. A last run may
// tell of more: whoever asks looks at the length.
func placesTold(next func() (bit int, ok bool), size int) string {
	var places strings.Builder
	for places.Len() < size {
		number := nextTold(next)
		if number == 1 {
			run := nextTold(next)
			places.WriteString(strings.Repeat("\x00", run))
			continue
		}
		places.WriteByte(byte(number - 1))
	}
	return places.String()
}

func nextTold(next func() (bit int, ok bool)) int {
	number, ok := nextNumber(next)
	if !ok || number > maxTold {
		panic(givenUp)
	}
	return number
}
