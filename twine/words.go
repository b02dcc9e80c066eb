package twine

import "strings"

func cutWords(data string) []string {
	var words []string
	for start := 0; start < len(data); {
		length, times := nextWord(data[start:])
		for range times {
			// A piece of data would share its memory.
			words = append(words, strings.Clone(data[start:start+length]))
			start += length
		}
	}
	return words
}

// nextWord tells how long the first word of text is, and how often it stands
// there at once. (This is Duval's way: it looks at no byte more than a few
// times, as what it has compared it cuts off all at once.)
func nextWord(text string) (length, times int) {
	length = 1
	end := 1
	for end < len(text) && text[end-length] <= text[end] {
		if text[end-length] < text[end] {
			// Greater than what repeats: all that was read is one word.
			length = end + 1
		}
		end++
	}
	return length, end / length
}
