package twine

import (
	"math/bits"
	"strings"
)

const (
	maxDigits     = 31 // of maxNumber, in binary
	maxNumberBits = 2*maxDigits - 1
)

// bitWriter answers two functions that share one text: one writes a bit behind
// it, the other tells it.
func bitWriter() (put func(bit int), written func() string) {
	var text strings.Builder
	put = func(bit int) { text.WriteByte('0' + byte(bit)) }
	return put, text.String
}

// bitReader answers two functions that share one place in the text: one reads
// the bit there and goes on (it is not ok at the end, or if there is no bit),
// the other tells whether the end is reached.
func bitReader(text string) (next func() (bit int, ok bool), ended func() bool) {
	place := 0
	ended = func() bool { return place == len(text) }
	next = func() (int, bool) {
		if ended() || text[place] != '0' && text[place] != '1' {
			return 0, false
		}
		bit := int(text[place] - '0')
		place++
		return bit, true
	}
	return next, ended
}

// putNumbers has no bound for how many numbers there are; each is at least 1.
func putNumbers(put func(bit int), numbers ...int) {
	for _, number := range numbers {
		digits := bits.Len(uint(number))
		for range digits - 1 {
			put(0)
		}
		for i := digits - 1; i >= 0; i-- {
			put(number >> i & 1)
		}
	}
}

func nextNumber(next func() (bit int, ok bool)) (number int, ok bool) {
	zeros, ok := countZeros(next)
	if !ok {
		return 0, false
	}
	number = 1
	for range zeros {
		bit, ok := next()
		if !ok {
			return 0, false
		}
		number = 2*number + bit
	}
	return number, number <= maxNumber
}

// countZeros reads zeros and the one behind them. It gives up where there are
// more than any number has, so that no number outgrows an int.
func countZeros(next func() (bit int, ok bool)) (zeros int, ok bool) {
	for zeros < maxDigits {
		bit, ok := next()
		if !ok || bit == 1 {
			return zeros, ok
		}
		zeros++
	}
	return 0, false
}
