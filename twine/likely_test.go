package twine

import (
	"math"
	"slices"
	"testing"
)

// Pack writes few tellings whose bits are not likely at all: these are held
// here against what is read of them.

func someNumbers(count, most int) []int {
	numbers := make([]int, count)
	state := uint32(count*1009 + most)
	for i := range numbers {
		state = state*1664525 + 1013904223
		numbers[i] = 1 + int(state>>12)%most
	}
	return numbers
}

func checkLikely(t *testing.T, numbers ...int) {
	t.Helper()
	next, _ := bitReader(bitsOf(likelyBytes(numbers)))
	nextLikely := likelyReader(next)
	var again []int
	for range numbers {
		number, ok := nextNumber(nextLikely)
		if !ok {
			t.Fatalf("%v breaks off behind %v", numbers, again)
		}
		again = append(again, number)
	}
	if !slices.Equal(again, numbers) {
		t.Fatalf("written %v, read %v", numbers, again)
	}
}

func TestLikelyBitsAreReadAsTheyWereWritten(t *testing.T) {
	for _, most := range []int{1, 2, 3, 10, 200, 256, maxNumber} {
		for count := range 401 {
			checkLikely(t, someNumbers(count, most)...)
		}
	}
	// Each bit of these is met for the first time: they end with a whole digit,
	// and those of eight bits with a whole byte.
	for number := range maxTold {
		checkLikely(t, 1, number+1)
	}
}

func TestLikelyReaderGivesUpBehindTheEnd(t *testing.T) {
	nextLikely := likelyReader(func() (int, bool) { return 0, false })
	for range 1 << 20 {
		if _, ok := nextLikely(); !ok {
			return
		}
	}
	t.Error("bits are read on and on behind the end")
}

func TestBothBitsKeepAPartOfEachSpan(t *testing.T) {
	for _, s := range []span{{0, math.MaxUint32}, {0, 1 << 31}, {1<<31 - 1, 1 << 31}, {1<<31 - 2, 1 << 31}, {1<<31 - 1, math.MaxUint32}} {
		for _, o := range []odds{{1, 1}, {1, 4000}, {4000, 1}, {1, 1 << 31}, {1 << 31, 1}} {
			last := s.lastOfZero(o)
			if last < s.low || last >= s.high {
				t.Errorf("span %v, odds %v: the part of 0 ends at %d", s, o, last)
			}
			zero, one := s, s
			zero.keep(0, last)
			one.keep(1, last)
			if zero != (span{s.low, last}) || one != (span{last + 1, s.high}) {
				t.Errorf("span %v, odds %v: the parts are %v and %v", s, o, zero, one)
			}
		}
	}
}

func TestASpanThatIsAllDroppedIsWholeAgain(t *testing.T) {
	s := span{77, 77}
	for range spanBits {
		if !s.settled() {
			t.Errorf("one number, %v, does not begin with one digit", s)
		}
		s.dropTop()
	}
	if s != wholeSpan() || s.settled() {
		t.Errorf("what is left is %v", s)
	}
}

func TestPlacesFollowATelling(t *testing.T) {
	at := place{0, firstBit}
	follow := func(numbers ...int) {
		putNumbers(func(bit int) { at = at.behind(bit) }, numbers...)
	}
	for _, c := range []struct {
		number int
		behind place
	}{{98, place{0, firstBit}}, {111, place{0, firstBit}}, {1, place{1, firstBit}}, {1, place{0, firstBit}}, {1, place{1, firstBit}}, {200, place{0, firstBit}}, {256, place{0, firstBit}}} {
		if follow(c.number); at != c.behind {
			t.Fatalf("behind %d: place %v, want %v", c.number, at, c.behind)
		}
	}
	for kind := range 2 {
		at = place{kind, firstBit}
		for i, bit := range []int{0, 0, 1, 0} {
			if at = at.behind(bit); at != (place{kind, []int{0b10, 0b100, 0b1001, 0b10010}[i]}) {
				t.Errorf("behind %d bits of 00101: place %v", i+1, at)
			}
		}
	}
}
