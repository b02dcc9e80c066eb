package twine_test

import (
	"slices"
	"strings"
	"testing"

	"twine/twine"
)

// slowFront counts the bytes that stand ahead: those met since the byte was
// last met, or, if it was not met yet, all that were met or have less worth.
func slowFront(data string) string {
	places := make([]byte, len(data))
	for i := range places {
		last := strings.LastIndexByte(data[:i], data[i])
		for other := range 256 {
			met := strings.LastIndexByte(data[:i], byte(other))
			if met > last || met == -1 && last == -1 && other < int(data[i]) {
				places[i]++
			}
		}
	}
	return string(places)
}

func checkFront(t *testing.T, data string) {
	t.Helper()
	places, e := twine.Front(data)
	if want := slowFront(data); places != want || e != twine.OK {
		t.Errorf("P5: Front(%q) = %q, %d, want %q", data, places, e, want)
	}
	if again, e := twine.Behind(places); again != data || e != twine.OK {
		t.Errorf("P5: Behind(%q) = %q, %d, want %q", places, again, e, data)
	}
	before, e := twine.Behind(data)
	if e != twine.OK || slowFront(before) != data {
		t.Errorf("P5: Behind(%q) = %q, %d, of which Front is %q", data, before, e, slowFront(before))
	}
}

func TestFrontOfExamples(t *testing.T) {
	for _, c := range []struct{ data, places []byte }{
		{nil, nil},
		{[]byte{0}, []byte{0}},
		{[]byte{255}, []byte{255}},
		{[]byte{1, 1, 0}, []byte{1, 0, 1}},
		{[]byte{255, 255, 254, 0}, []byte{255, 0, 255, 2}},
		{[]byte{3, 2, 1, 0}, []byte{3, 3, 3, 3}},
		{[]byte{0, 1, 2, 3, 0}, []byte{0, 1, 2, 3, 3}},
	} {
		places, e := twine.Front(string(c.data))
		if !slices.Equal([]byte(places), c.places) || e != twine.OK {
			t.Errorf("P5: Front(%v) = %v, %d, want %v", c.data, []byte(places), e, c.places)
		}
		data, e := twine.Behind(string(c.places))
		if !slices.Equal([]byte(data), c.data) || e != twine.OK {
			t.Errorf("P5: Behind(%v) = %v, %d, want %v", c.places, []byte(data), e, c.data)
		}
	}
}

func TestFrontAndBehindMeetTheirDefinition(t *testing.T) {
	for _, data := range textsOver("\x00\x01\xff", 5) {
		checkFront(t, data)
	}
	for _, data := range someTexts() {
		checkFront(t, data)
	}
}

func TestFrontAndBehindBound(t *testing.T) {
	for _, letter := range []string{"a", "\x00", "\xff"} {
		checkFront(t, strings.Repeat(letter, 300))
		long := strings.Repeat(letter, 301)
		if places, e := twine.Front(long); places != "" || e != twine.ErrLong {
			t.Errorf("P5: Front of 301 times %q: %q, %d", letter, places, e)
		}
		if data, e := twine.Behind(long); data != "" || e != twine.ErrLong {
			t.Errorf("P5: Behind of 301 times %q: %q, %d", letter, data, e)
		}
	}
}
