// Package twine packs bytes by turning them: see DOC.md.
package twine

import "strings"

// Errno is what a call answers: OK or the reason for a refusal.
type Errno int

const (
	OK      Errno = 0
	ErrLong Errno = 1 // above a bound
	ErrArg  Errno = 2 // a number that may not be
	ErrBits Errno = 3 // no numbers
	ErrData Errno = 4 // what stands for no bytes
	ErrHead Errno = 5 // no packed text
	ErrEnd  Errno = 6 // it breaks off
	ErrSum  Errno = 7 // another sum
	ErrMore Errno = 8 // more behind it
)

const (
	maxData   = 300
	maxBlock  = 200
	maxText   = 4000
	maxNumber = 1 << 30
	maxList   = 100
)

// Words cuts bytes into words that fall (P3).
func Words(data string) ([]string, Errno) {
	if len(data) > maxData {
		return nil, ErrLong
	}
	return cutWords(data), OK
}

// Turn turns bytes (P4).
func Turn(data string) (string, Errno) {
	if len(data) > maxData {
		return "", ErrLong
	}
	return turned(data), OK
}

// Back turns them back (P4).
func Back(data string) (string, Errno) {
	if len(data) > maxData {
		return "", ErrLong
	}
	return turnedBack(data), OK
}

// Front tells places in a list instead of bytes (P5).
func Front(data string) (string, Errno) {
	if len(data) > maxData {
		return "", ErrLong
	}
	return placesOf(data), OK
}

// Behind tells bytes instead of places (P5).
func Behind(data string) (string, Errno) {
	if len(data) > maxData {
		return "", ErrLong
	}
	return bytesAt(data), OK
}

// Gamma writes numbers as bits (P6).
func Gamma(numbers ...int) (string, Errno) {
	if len(numbers) > maxList {
		return "", ErrLong
	}
	for _, number := range numbers {
		if number < 1 || number > maxNumber {
			return "", ErrArg
		}
	}
	put, written := bitWriter()
	putNumbers(put, numbers...)
	return written(), OK
}

// Ungamma reads them (P6).
func Ungamma(bits string) ([]int, Errno) {
	if len(bits) > maxNumberBits*maxList {
		return nil, ErrLong
	}
	next, ended := bitReader(bits)
	var numbers []int
	for !ended() {
		number, ok := nextNumber(next)
		if !ok || len(numbers) == maxList {
			return nil, ErrBits
		}
		numbers = append(numbers, number)
	}
	return numbers, OK
}

// Pack packs a block (P7).
func Pack(data string) (string, Errno) {
	if len(data) > maxBlock {
		return "", ErrLong
	}
	return packedBlock(data), OK
}

// Unpack unpacks a block of so many bytes (P7).
func Unpack(packed string, size int) (data string, e Errno) {
	if len(packed) > maxText {
		return "", ErrLong
	}
	if size < 0 || size > maxBlock {
		return "", ErrArg
	}
	defer func() {
		if recover() != nil {
			data, e = "", ErrData
		}
	}()
	return unpackedBlock(packed, size), OK
}

// Compress packs bytes, block by block (P8, P9).
func Compress(data string, block int) (string, Errno) {
	if len(data) > maxData {
		return "", ErrLong
	}
	if block < 1 || block > maxBlock {
		return "", ErrArg
	}
	return framed(data, block), OK
}

// Decompress unpacks them (P8, P9).
func Decompress(text string) (data string, e Errno) {
	if len(text) > maxText {
		return "", ErrLong
	}
	blocks, ok := strings.CutPrefix(text, head)
	if !ok {
		return "", ErrHead
	}
	defer func() {
		// Blocks that are given up are caught by Unpack: what comes here is a
		// text that breaks off.
		if recover() != nil {
			data, e = "", ErrEnd
		}
	}()
	return unframed(blocks)
}
