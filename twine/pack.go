package twine

import "strings"

// The first byte of a packed block tells how the rest of it stands for bytes.
const (
	plainKind  byte = iota // they are the rest
	toldKind               // the rest is their telling, as Gamma writes it
	likelyKind             // the rest is their telling, bits written by how likely they are
)

// givenUp is what a packed text or block is left with from deep within; the
// face that catches it tells why.
const givenUp = "this stands for no bytes"

// packedBlock takes the shortest kind. The first two keep the bounds that are
// promised, each one of them, whatever the third comes to.
func packedBlock(data string) string {
	telling := tellingOf(placesOf(turned(data)))
	kind, rest := plainKind, data
	if told := toldBytes(telling); len(told) < len(rest) {
		kind, rest = toldKind, told
	}
	if likely := likelyBytes(telling); len(likely) < len(rest) {
		kind, rest = likelyKind, likely
	}
	var packed strings.Builder
	packed.WriteByte(kind)
	packed.WriteString(rest)
	return packed.String()
}

func toldBytes(telling []int) string {
	put, written := bitWriter()
	putNumbers(put, telling...)
	return bytesOf(written())
}

func likelyBytes(telling []int) string {
	put, written := bitWriter()
	putLikely, end := likelyWriter(put)
	putNumbers(putLikely, telling...)
	end()
	return bytesOf(written())
}

// unpackedBlock panics where a block stands for no bytes, or not for so many.
// What may stand behind a telling is not looked at.
func unpackedBlock(packed string, size int) string {
	if packed == "" {
		panic(givenUp)
	}
	data := packed[1:]
	next, _ := bitReader(bitsOf(data))
	switch packed[0] {
	case likelyKind:
		next = likelyReader(next)
		fallthrough
	case toldKind:
		data = turnedBack(bytesAt(placesTold(next, size)))
		fallthrough
	case plainKind:
		if len(data) != size {
			panic(givenUp)
		}
	default:
		panic(givenUp)
	}
	return strings.Clone(data)
}

// bytesOf joins bits, eight to a byte, and fills the last byte with zeros.
func bytesOf(bits string) string {
	joined := make([]byte, (len(bits)+7)/8)
	for i := range len(bits) {
		joined[i/8] |= (bits[i] - '0') << (7 - i%8)
	}
	return string(joined)
}

func bitsOf(joined string) string {
	put, written := bitWriter()
	for i := range len(joined) {
		for shift := 7; shift >= 0; shift-- {
			put(int(joined[i]) >> shift & 1)
		}
	}
	return written()
}
