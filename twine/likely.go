package twine

import "math/bits"

// place tells where a bit of a telling stands: whether its number is how long a
// run is (1) or not (0), and the bits of that number ahead of it, behind a 1
// that tells them from other bits with fewer zeros.
type place [2]int

const firstBit = 1 // no bits stand ahead

func (p place) behind(bit int) place {
	ahead := 2*p[1] + bit
	number, whole := wholeNumber(ahead)
	switch {
	case !whole:
		return place{p[0], ahead}
	case number == 1 && p[0] == 0:
		return place{1, firstBit}
	}
	return place{0, firstBit}
}

// wholeNumber tells the digits among the bits behind the 1, and whether they
// are all that the zeros ahead of them ask for.
func wholeNumber(ahead int) (number int, whole bool) {
	length := bits.Len(uint(ahead)) - 1
	number = ahead - 1<<length
	digits := bits.Len(uint(number))
	return number, 2*digits == length+1
}

// odds tells how often a bit was 0 and how often 1, each once more than it was:
// what was never met may come yet.
type odds struct{ zeros, ones uint64 }

func (o *odds) count(bit int) {
	if bit == 0 {
		o.zeros++
	} else {
		o.ones++
	}
}

// follower answers two functions that share one place in a telling: one tells
// the odds of the bit there, the other counts that bit and goes on behind it.
func follower() (coming func() odds, pass func(bit int)) {
	met := map[place]odds{}
	at := place{0, firstBit}
	coming = func() odds {
		if o, ok := met[at]; ok {
			return o
		}
		return odds{1, 1}
	}
	pass = func(bit int) {
		o := coming()
		o.count(bit)
		met[at] = o
		at = at.behind(bit)
	}
	return coming, pass
}

const spanBits = 32

// span is what all the bits so far leave of the numbers of spanBits binary
// digits. Each bit keeps a part of it that is as great as the bit is likely:
// one number stands for all bits, and likely bits take few of its digits.
type span struct{ low, high uint32 }

func wholeSpan() span { return span{0, 1<<spanBits - 1} }

// lastOfZero answers the last number of the part that a bit 0 keeps. There is
// always one, and one behind it, as low is less than high.
func (s span) lastOfZero(o odds) uint32 {
	return s.low + uint32(uint64(s.high-s.low)*o.zeros/(o.zeros+o.ones))
}

func (s *span) keep(bit int, lastOfZero uint32) {
	if bit == 0 {
		s.high = lastOfZero
	} else {
		s.low = lastOfZero + 1
	}
}

// settled tells whether all numbers of the span begin with the same digit.
func (s span) settled() bool { return topDigit(s.low) == topDigit(s.high) }

// dropTop leaves the first digit out and makes room for one more.
func (s *span) dropTop() { s.low, s.high = s.low<<1, s.high<<1|1 }

func topDigit(number uint32) int { return int(number >> (spanBits - 1)) }

// likelyWriter answers two functions: one writes a bit of a telling by how
// likely it is, the other ends what is written.
func likelyWriter(put func(bit int)) (putLikely func(bit int), end func()) {
	left := wholeSpan()
	coming, pass := follower()
	putLikely = func(bit int) {
		left.keep(bit, left.lastOfZero(coming()))
		pass(bit)
		for left.settled() {
			put(topDigit(left.low))
			left.dropTop()
		}
	}
	end = func() {
		// Zeros are read behind the end. If they alone are no number of the
		// span, a 1 and zeros are.
		if left.low > 0 {
			put(1)
		}
	}
	return putLikely, end
}

// likelyReader answers a function that reads a bit as likelyWriter wrote it. It
// is not ok where the text breaks off.
func likelyReader(next func() (bit int, ok bool)) func() (bit int, ok bool) {
	left := wholeSpan()
	coming, pass := follower()
	nextDigit := paddedReader(next)
	number := uint32(0)
	for range spanBits {
		digit, _ := nextDigit()
		number = number<<1 | uint32(digit)
	}
	return func() (int, bool) {
		bit := 0
		lastOfZero := left.lastOfZero(coming())
		if number > lastOfZero {
			bit = 1
		}
		left.keep(bit, lastOfZero)
		pass(bit)
		for left.settled() {
			digit, ok := nextDigit()
			if !ok {
				return 0, false
			}
			number = number<<1 | uint32(digit)
			left.dropTop()
		}
		return bit, true
	}
}

// paddedReader reads zeros behind the end, but no more of them than a span has
// digits: so many digits ahead of its writer the reader is.
func paddedReader(next func() (bit int, ok bool)) func() (bit int, ok bool) {
	zeros := spanBits
	return func() (int, bool) {
		bit, ok := next()
		if !ok {
			zeros--
		}
		return bit, zeros >= 0
	}
}
