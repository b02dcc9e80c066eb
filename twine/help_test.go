package twine_test

import (
	"strings"
	"unsafe"
)

// textsOver answers all texts of at most so many letters, shorter ones first.
func textsOver(letters string, most int) []string {
	texts := []string{""}
	for from, length := 0, 0; length < most; length++ {
		to := len(texts)
		for _, text := range texts[from:to] {
			for i := range len(letters) {
				texts = append(texts, text+letters[i:i+1])
			}
		}
		from = to
	}
	return texts
}

// someTexts answers texts of 0 to 300 bytes of all kinds, the same ones each time.
func someTexts() []string {
	all := make([]byte, 256)
	for i := range all {
		all[i] = byte(i)
	}
	texts := []string{
		string(all),
		backwards(string(all)),
		strings.Repeat("\x00", 300),
		strings.Repeat("\xff", 300),
		strings.Repeat("ab", 150),
		strings.Repeat("ba", 150),
		strings.Repeat("\x7f\x80", 150),
		strings.Repeat("a", 299) + "b",
		"b" + strings.Repeat("a", 299),
		strings.Repeat("aab", 33) + "aaab",
		"h\xc3\xa9 \xff\xfe\x80 \U0001f9f5",
	}
	for _, letters := range []uint32{2, 3, 17, 256} {
		for length := 0; length <= 300; length += 7 {
			texts = append(texts, mixed(length, letters))
		}
		texts = append(texts, mixed(300, letters))
	}
	return texts
}

// mixed answers bytes with no order to them.
func mixed(length int, letters uint32) string {
	state := uint32(length)*2654435761 + letters
	text := make([]byte, length)
	for i := range text {
		state = state*1664525 + 1013904223
		text[i] = byte((state >> 16) % letters)
	}
	return string(text)
}

func backwards(text string) string {
	turned := make([]byte, len(text))
	for i := range turned {
		turned[i] = text[len(text)-1-i]
	}
	return string(turned)
}

// share tells whether two texts have a byte of memory in common.
func share(a, b string) bool {
	if a == "" || b == "" {
		return false
	}
	startA := uintptr(unsafe.Pointer(unsafe.StringData(a)))
	startB := uintptr(unsafe.Pointer(unsafe.StringData(b)))
	return startA < startB+uintptr(len(b)) && startB < startA+uintptr(len(a))
}
