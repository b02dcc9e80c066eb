package twine_test

import (
	"slices"
	"strings"
	"testing"

	"twine/twine"
)

func falls(word string) bool {
	for i := 1; i < len(word); i++ {
		if word >= word[i:] {
			return false
		}
	}
	return word != ""
}

// checkWords holds an answer against P3's own words; only one list meets them.
func checkWords(t *testing.T, data string) {
	t.Helper()
	words, e := twine.Words(data)
	if e != twine.OK {
		t.Errorf("P3: Words(%q): error %d", data, e)
	}
	if strings.Join(words, "") != data {
		t.Errorf("P3: Words(%q) = %q: other bytes", data, words)
	}
	for i, word := range words {
		if !falls(word) {
			t.Errorf("P3: Words(%q) = %q: %q does not fall", data, words, word)
		}
		if i > 0 && words[i-1] < word {
			t.Errorf("P3: Words(%q) = %q: %q stands behind the one ahead", data, words, word)
		}
	}
}

func TestWordsOfExamples(t *testing.T) {
	for _, c := range []struct {
		data string
		want []string
	}{
		{"", nil},
		{"a", []string{"a"}},
		{"banana", []string{"b", "an", "an", "a"}},
		{"ab", []string{"ab"}},
		{"ba", []string{"b", "a"}},
		{"abab", []string{"ab", "ab"}},
		{"abac", []string{"abac"}},
		{"abaaba", []string{"ab", "aab", "a"}},
		{"\x7f\x80", []string{"\x7f\x80"}},
		{"\x80\x7f", []string{"\x80", "\x7f"}},
		{"\x00\x00", []string{"\x00", "\x00"}},
		{"\x00\xff\x00", []string{"\x00\xff", "\x00"}},
		{"\xc3\xa9", []string{"\xc3", "\xa9"}},
	} {
		words, e := twine.Words(c.data)
		if !slices.Equal(words, c.want) || e != twine.OK {
			t.Errorf("P3: Words(%q) = %q, %d, want %q", c.data, words, e, c.want)
		}
	}
}

func TestWordsMeetTheirDefinition(t *testing.T) {
	for _, data := range textsOver("ab", 12) {
		checkWords(t, data)
	}
	for _, data := range textsOver("\x00a\xff", 8) {
		checkWords(t, data)
	}
	for _, data := range someTexts() {
		checkWords(t, data)
	}
}

func TestWordsBound(t *testing.T) {
	for _, letter := range []string{"a", "\x00", "\xff"} {
		if words, e := twine.Words(strings.Repeat(letter, 300)); len(words) != 300 || e != twine.OK {
			t.Errorf("P3: Words of 300 times %q: %d words, %d", letter, len(words), e)
		}
		if words, e := twine.Words(strings.Repeat(letter, 301)); len(words) != 0 || e != twine.ErrLong {
			t.Errorf("P3: Words of 301 times %q: %d words, %d", letter, len(words), e)
		}
	}
	one := strings.Repeat("a", 299) + "b"
	if words, e := twine.Words(one); !slices.Equal(words, []string{one}) || e != twine.OK {
		t.Errorf("P3: a word of 300 bytes: %q, %d", words, e)
	}
}
