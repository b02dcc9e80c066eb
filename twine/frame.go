package twine

import "strings"

const (
	head = "TWN1"

	// How many bytes the numbers of a block have.
	sizeBytes   = 2
	sumBytes    = 4
	lengthBytes = 2
)

// sumOf is CRC-32.
func sumOf(data string) uint32 {
	sum := ^uint32(0)
	for i := range len(data) {
		sum ^= uint32(data[i])
		for range 8 {
			odd := sum & 1
			sum = sum>>1 ^ odd*0xedb88320
		}
	}
	return ^sum
}

func framed(data string, block int) string {
	var text strings.Builder
	text.WriteString(head)
	for start := 0; start < len(data); start += block {
		frameBlock(&text, data[start:min(start+block, len(data))])
	}
	putBytes(&text, 0, sizeBytes)
	return text.String()
}

func frameBlock(text *strings.Builder, data string) {
	packed := packedBlock(data)
	putBytes(text, uint32(len(data)), sizeBytes)
	putBytes(text, sumOf(data), sumBytes)
	putBytes(text, uint32(len(packed)), lengthBytes)
	text.WriteString(packed)
}

// putBytes writes a number as so many bytes, the lowest first.
func putBytes(text *strings.Builder, number uint32, count int) {
	for i := range count {
		text.WriteByte(byte(number >> (8 * i)))
	}
}

func numberOf(text string) uint32 {
	number := uint32(0)
	for i := range len(text) {
		number |= uint32(text[i]) << (8 * i)
	}
	return number
}

// unframed goes through the blocks behind the head, up to the end. It panics
// where the text breaks off.
func unframed(text string) (string, Errno) {
	take, ended := taker(text)
	var data strings.Builder
	for {
		size := int(numberOf(take(sizeBytes)))
		if size == 0 {
			break
		}
		if size > maxBlock || data.Len()+size > maxData {
			return "", ErrData
		}
		part, e := nextBlock(take, size)
		if e != OK {
			return "", e
		}
		data.WriteString(part)
	}
	if !ended() {
		return "", ErrMore
	}
	return data.String(), OK
}

// nextBlock takes all of a block ahead of looking into it: one that breaks off
// is told as such, whatever else is wrong with it.
func nextBlock(take func(count int) string, size int) (string, Errno) {
	sum := numberOf(take(sumBytes))
	length := int(numberOf(take(lengthBytes)))
	packed := take(length)
	data, e := Unpack(packed, size)
	if e != OK {
		return "", ErrData
	}
	if sumOf(data) != sum {
		return "", ErrSum
	}
	return data, OK
}

// taker answers two functions that share one place in the text: one takes so
// many bytes and goes on (it panics if there are fewer), the other tells
// whether the end is reached.
func taker(text string) (take func(count int) string, ended func() bool) {
	place := 0
	take = func(count int) string {
		if count > len(text)-place {
			panic(givenUp)
		}
		place += count
		return text[place-count : place]
	}
	ended = func() bool { return place == len(text) }
	return take, ended
}
