package twine

import (
	"slices"
	"strings"
	"testing"
)

func TestTellings(t *testing.T) {
	for _, c := range []struct {
		data    string
		telling []int
	}{
		{"", nil},
		{"a", []int{98}},
		{"\x00", []int{1, 1}},
		{"\xff", []int{256}},
		{"banana", []int{98, 111, 1, 1, 100, 3, 1, 1}},
		{strings.Repeat("\x00", 200), []int{1, 200}},
		{strings.Repeat("a", 200), []int{98, 1, 199}},
	} {
		places := placesOf(turned(c.data))
		if telling := tellingOf(places); !slices.Equal(telling, c.telling) {
			t.Errorf("P7: the telling of %q is %v, want %v", c.data, telling, c.telling)
		}
		next, _ := bitReader(bitsOf(toldBytes(c.telling)))
		if again := placesTold(next, len(places)); again != places {
			t.Errorf("P7: %v tells of %q, want %q", c.telling, again, places)
		}
	}
}

func TestWhatIsNoTellingIsGivenUp(t *testing.T) {
	for _, c := range []struct {
		telling []int
		size    int
	}{
		{nil, 1},
		{[]int{98}, 2},
		{[]int{257}, 1},
		{[]int{maxNumber}, 1},
		{[]int{1, 2}, 1},
		{[]int{1, 257}, 200},
		{[]int{1, maxNumber}, 200},
		{[]int{98, 1}, 200},
		{[]int{98, 1, 200}, 200},
	} {
		packed := string(toldKind) + toldBytes(c.telling)
		if data, e := Unpack(packed, c.size); data != "" || e != ErrData {
			t.Errorf("P7: Unpack of the telling %v, and %d: %q, %d", c.telling, c.size, data, e)
		}
	}
}

func TestATellingThatBreaksOffIsGivenUp(t *testing.T) {
	telling := slices.Repeat([]int{256}, 50)
	packed := string(toldKind) + toldBytes(telling)
	if _, e := Unpack(packed, 50); e != OK {
		t.Errorf("P7: Unpack of all of it: %d", e)
	}
	// All 850 bits are asked for, and the last two stand in a byte of their own.
	for i := range packed {
		if data, e := Unpack(packed[:i], 50); data != "" || e != ErrData {
			t.Errorf("P7: Unpack of %d bytes of it: %q, %d", i, data, e)
		}
	}
}

func TestEightBitsGoToAByte(t *testing.T) {
	for bits, joined := range map[string]string{"": "", "1": "\x80", "00000001": "\x01", "1111111101": "\xff\x40"} {
		if got := bytesOf(bits); got != joined {
			t.Errorf("%q comes to %q, want %q", bits, got, joined)
		}
		if got := bitsOf(joined); strings.TrimRight(got, "0") != strings.TrimRight(bits, "0") || len(got) != 8*len(joined) {
			t.Errorf("%q comes from %q, want %q", joined, got, bits)
		}
	}
}
