package twine_test

import (
	"math"
	"slices"
	"strings"
	"testing"

	"twine/twine"
)

// slowTelling follows P7's own words.
func slowTelling(data string) []int {
	var telling []int
	run := 0
	places := slowFront(slowTurn(data))
	for i := range len(places) {
		if places[i] != 0 {
			telling = append(telling, int(places[i])+1)
			continue
		}
		run++
		if i+1 == len(places) || places[i+1] != 0 {
			telling = append(telling, 1, run)
			run = 0
		}
	}
	return telling
}

// mostPacked is how many bytes Pack may answer.
func mostPacked(data string) int {
	bits := len(slowGamma(slowTelling(data)))
	return 2 + min(len(data), (bits+7)/8)
}

func checkPack(t *testing.T, data string) string {
	t.Helper()
	packed, e := twine.Pack(data)
	if most := mostPacked(data); len(packed) > most || e != twine.OK {
		t.Errorf("P7: Pack(%q) = %q, %d: %d bytes, at most %d", data, packed, e, len(packed), most)
	}
	if again, e := twine.Unpack(packed, len(data)); again != data || e != twine.OK {
		t.Errorf("P7: Unpack(%q, %d) = %q, %d, want %q", packed, len(data), again, e, data)
	}
	return packed
}

// checkUnpack asks only for what is promised of any text.
func checkUnpack(t *testing.T, packed string, size int) {
	t.Helper()
	data, e := twine.Unpack(packed, size)
	if !(e == twine.ErrData && data == "" || e == twine.OK && len(data) == size) {
		t.Errorf("P7: Unpack(%q, %d) = %q, %d", packed, size, data, e)
	}
}

// evenTexts answers texts whose tellings Gamma writes as shortly as can be: in
// each of its bits 0 is as likely as 1.
func evenTexts() []string {
	var texts []string
	for seed := range 40 {
		bits := mixed(900+seed, 2)
		var places []byte
		for zeros := 0; len(places) < 200; zeros = 0 {
			for bits[zeros] == 0 {
				zeros++
			}
			number := 0
			for _, digit := range []byte(bits[zeros : 2*zeros+1]) {
				number = 2*number + int(digit)
			}
			bits = bits[2*zeros+1:]
			places = append(places, byte(number-1))
		}
		front, _ := twine.Behind(string(places))
		data, _ := twine.Back(front)
		texts = append(texts, data)
	}
	return texts
}

func TestTellingOfExample(t *testing.T) {
	if telling := slowTelling("banana"); !slices.Equal(telling, []int{98, 111, 1, 1, 100, 3, 1, 1}) {
		t.Errorf("P7: the telling of banana: %v", telling)
	}
}

func TestPackKeepsItsBoundsAndUnpackReads(t *testing.T) {
	for _, data := range textsOver("ab", 9) {
		checkPack(t, data)
	}
	for _, data := range textsOver("\x00a\xff", 6) {
		checkPack(t, data)
	}
	for letter := range 256 {
		checkPack(t, string([]byte{byte(letter)}))
		checkPack(t, strings.Repeat(string([]byte{byte(letter)}), 200))
	}
	for _, data := range append(someTexts(), evenTexts()...) {
		checkPack(t, data[:min(200, len(data))])
	}
}

// Where bits are not even, writing them by how likely they are pays.
func TestPackWritesByHowLikelyBitsAre(t *testing.T) {
	for _, data := range []string{
		mixed(200, 3),
		strings.Repeat("abcde", 40),
		"it was the best of times, it was the worst of times, it was the age of wisdom, it was the age of foolishness, it was the epoch of belief, it was the epoch of incredulity",
	} {
		packed := checkPack(t, data)
		if bits := len(slowGamma(slowTelling(data))); len(packed) > bits/8 {
			t.Errorf("Pack(%q): %d bytes, no fewer than Gamma's %d bits", data, len(packed), bits)
		}
	}
}

func TestPackBound(t *testing.T) {
	for _, letter := range []string{"a", "\x00", "\xff"} {
		checkPack(t, strings.Repeat(letter, 199))
		checkPack(t, strings.Repeat(letter, 200))
		for _, length := range []int{201, 300, 4000, 4001} {
			if packed, e := twine.Pack(strings.Repeat(letter, length)); packed != "" || e != twine.ErrLong {
				t.Errorf("P7: Pack of %d times %q: %q, %d", length, letter, packed, e)
			}
		}
	}
}

func TestUnpackRefuses(t *testing.T) {
	packed, _ := twine.Pack("banana")
	for _, text := range []string{"", "x", packed, strings.Repeat("x", 4000)} {
		for _, size := range []int{-1, 201, 300, math.MinInt, math.MaxInt} {
			if data, e := twine.Unpack(text, size); data != "" || e != twine.ErrArg {
				t.Errorf("P7: Unpack of %d bytes and %d: %q, %d", len(text), size, data, e)
			}
		}
	}
	for _, letter := range []string{"\x00", "\x01", "\x02", "x"} {
		for _, size := range []int{-1, 0, 200, 201, math.MinInt, math.MaxInt} {
			if data, e := twine.Unpack(strings.Repeat(letter, 4001), size); data != "" || e != twine.ErrLong {
				t.Errorf("P7: Unpack of 4001 times %q and %d: %q, %d", letter, size, data, e)
			}
		}
		for size := range 201 {
			checkUnpack(t, strings.Repeat(letter, 4000), size)
		}
	}
}

func TestUnpackOfShortTexts(t *testing.T) {
	var texts []string
	for first := range 256 {
		texts = append(texts, string([]byte{byte(first)}))
		for second := range 256 {
			texts = append(texts, string([]byte{byte(first), byte(second)}))
		}
	}
	for _, packed := range append(texts, textsOver("\x00\x01\x02\x7f\x80\xff", 4)...) {
		for _, size := range []int{0, 1, 2, 3, 50, 199, 200} {
			checkUnpack(t, packed, size)
		}
	}
}

func TestUnpackOfSpoiltBlocks(t *testing.T) {
	for _, data := range []string{"", "a", "banana", strings.Repeat("ab", 100), mixed(200, 3), mixed(60, 256), evenTexts()[0], "the cat and the hat and the bat"} {
		packed, _ := twine.Pack(data)
		for size := range 201 {
			checkUnpack(t, packed, size)
			checkUnpack(t, packed+"\x00\xff", size)
		}
		for i := range packed {
			checkUnpack(t, packed[:i], len(data))
			checkUnpack(t, packed[i:], len(data))
			for bit := range 8 {
				spoilt := []byte(packed)
				spoilt[i] ^= 1 << bit
				checkUnpack(t, string(spoilt), len(data))
			}
		}
		for first := range 6 {
			for filler := range 64 {
				checkUnpack(t, string([]byte{byte(first)})+mixed(filler*5, 256), len(data))
			}
		}
	}
}
