package twine_test

import (
	"slices"
	"strings"
	"testing"

	"twine/twine"
)

// slowTurn follows P4's own words. It reads twice as many bytes as there are,
// which is more than enough to tell what is read on and on.
func slowTurn(data string) string {
	type place struct {
		reading string
		ahead   byte
	}
	var places []place
	words, _ := twine.Words(data)
	for _, word := range words {
		round := strings.Repeat(word, 2*len(data)/len(word)+2)
		for i := range len(word) {
			places = append(places, place{round[i : i+2*len(data)], round[i+len(word)-1]})
		}
	}
	slices.SortStableFunc(places, func(a, b place) int { return strings.Compare(a.reading, b.reading) })
	var turned strings.Builder
	for _, p := range places {
		turned.WriteByte(p.ahead)
	}
	return turned.String()
}

func checkTurn(t *testing.T, data string) {
	t.Helper()
	turned, e := twine.Turn(data)
	if want := slowTurn(data); turned != want || e != twine.OK {
		t.Errorf("P4: Turn(%q) = %q, %d, want %q", data, turned, e, want)
	}
	if again, e := twine.Back(turned); again != data || e != twine.OK {
		t.Errorf("P4: Back(%q) = %q, %d, want %q", turned, again, e, data)
	}
	before, e := twine.Back(data)
	if e != twine.OK || slowTurn(before) != data {
		t.Errorf("P4: Back(%q) = %q, %d, of which Turn is %q", data, before, e, slowTurn(before))
	}
}

func TestTurnOfExamples(t *testing.T) {
	for _, c := range []struct{ data, turned string }{
		{"", ""},
		{"a", "a"},
		{"\x00", "\x00"},
		{"\xff", "\xff"},
		{"banana", "annbaa"},
		{"ab", "ba"},
		{"ba", "ab"},
		{"abab", "bbaa"},
		{"aba", "aba"},
		{"\x7f\x80", "\x80\x7f"},
		{"\x80\x7f", "\x7f\x80"},
		{"abaab", "babaa"},
	} {
		if turned, e := twine.Turn(c.data); turned != c.turned || e != twine.OK {
			t.Errorf("P4: Turn(%q) = %q, %d, want %q", c.data, turned, e, c.turned)
		}
		if data, e := twine.Back(c.turned); data != c.data || e != twine.OK {
			t.Errorf("P4: Back(%q) = %q, %d, want %q", c.turned, data, e, c.data)
		}
	}
}

func TestTurnAndBackMeetTheirDefinition(t *testing.T) {
	for _, data := range textsOver("ab", 11) {
		checkTurn(t, data)
	}
	for _, data := range textsOver("\x00a\xff", 7) {
		checkTurn(t, data)
	}
	for _, data := range someTexts() {
		checkTurn(t, data)
	}
}

// evenWord spreads so many b over so many letters as evenly as can be; if the
// two have no divisor in common, the word falls.
func evenWord(letters, ofThemB int) string {
	word := make([]byte, letters)
	for i := range word {
		word[i] = 'a' + byte((i+1)*ofThemB/letters-i*ofThemB/letters)
	}
	return string(word)
}

// Even words whose shares of b are as near as can be agree, from some places
// on, over all but two of the letters that both have together: no two words
// that go round are told apart later.
func TestTurnReadsFarEnough(t *testing.T) {
	for _, together := range []int{5, 6, 10, 18, 34, 66, 130, 258, 299, 300} {
		for few := 2; few < together-few; few++ {
			many := together - few
			for ofFew := 1; ofFew < few; ofFew++ {
				ofMany := ofFew * many / few
				if ofFew*many-ofMany*few == 1 {
					checkTurn(t, evenWord(few, ofFew)+evenWord(many, ofMany))
				}
			}
		}
	}
}

func TestTurnAndBackBound(t *testing.T) {
	for _, letter := range []string{"a", "\x00", "\xff"} {
		checkTurn(t, strings.Repeat(letter, 300))
		for _, length := range []int{301, 4000} {
			long := strings.Repeat(letter, length)
			if turned, e := twine.Turn(long); turned != "" || e != twine.ErrLong {
				t.Errorf("P4: Turn of %d times %q: %q, %d", length, letter, turned, e)
			}
			if data, e := twine.Back(long); data != "" || e != twine.ErrLong {
				t.Errorf("P4: Back of %d times %q: %q, %d", length, letter, data, e)
			}
		}
	}
}
