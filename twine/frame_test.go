package twine_test

import (
	"encoding/binary"
	"hash/crc32"
	"math"
	"strings"
	"testing"

	"twine/twine"
)

// frame lays a packed block into its frame, be the numbers right or wrong.
func frame(size int, sum uint32, length int, packed string) string {
	numbers := binary.LittleEndian.AppendUint16(nil, uint16(size))
	numbers = binary.LittleEndian.AppendUint32(numbers, sum)
	numbers = binary.LittleEndian.AppendUint16(numbers, uint16(length))
	return string(numbers) + packed
}

func rightFrame(data string) string {
	packed, _ := twine.Pack(data)
	return frame(len(data), crc32.ChecksumIEEE([]byte(data)), len(packed), packed)
}

// slowCompress follows P8's own words.
func slowCompress(data string, block int) string {
	text := "TWN1"
	for len(data) > block {
		text += rightFrame(data[:block])
		data = data[block:]
	}
	if data != "" {
		text += rightFrame(data)
	}
	return text + "\x00\x00"
}

func checkCompress(t *testing.T, data string, block int) {
	t.Helper()
	text, e := twine.Compress(data, block)
	if want := slowCompress(data, block); text != want || e != twine.OK {
		t.Errorf("P8: Compress(%q, %d) = %q, %d, want %q", data, block, text, e, want)
	}
	if again, e := twine.Decompress(text); again != data || e != twine.OK {
		t.Errorf("P9: Decompress(%q) = %q, %d, want %q", text, again, e, data)
	}
}

func checkDecompress(t *testing.T, text, want string, error twine.Errno) {
	t.Helper()
	if data, e := twine.Decompress(text); data != want || e != error {
		t.Errorf("P9: Decompress(%.80q, %d bytes) = %q, %d, want %q, %d", text, len(text), data, e, want, error)
	}
}

func TestCompressMeetsItsDefinition(t *testing.T) {
	for _, data := range textsOver("\x00a\xff", 4) {
		for block := 1; block <= 5; block++ {
			checkCompress(t, data, block)
		}
	}
	for _, data := range someTexts() {
		for _, block := range []int{1, 2, 7, 100, 150, 199, 200} {
			checkCompress(t, data, block)
		}
	}
	for block := 1; block <= 200; block++ {
		for _, length := range []int{block - 1, block, block + 1, 300} {
			checkCompress(t, mixed(length, 256), block)
		}
	}
}

func TestCompressOfExamples(t *testing.T) {
	if text, e := twine.Compress("", 200); text != "TWN1\x00\x00" || e != twine.OK {
		t.Errorf("P8: Compress of nothing = %q, %d", text, e)
	}
	packed, _ := twine.Pack("123456789")
	want := "TWN1\x09\x00\x26\x39\xf4\xcb" + string([]byte{byte(len(packed)), 0}) + packed + "\x00\x00"
	if text, e := twine.Compress("123456789", 9); text != want || e != twine.OK {
		t.Errorf("P8: Compress(123456789, 9) = %q, %d, want %q", text, e, want)
	}
}

func TestCompressRefuses(t *testing.T) {
	for _, data := range []string{"", "a", strings.Repeat("a", 300)} {
		for _, block := range []int{0, -1, 201, 300, math.MinInt, math.MaxInt} {
			if text, e := twine.Compress(data, block); text != "" || e != twine.ErrArg {
				t.Errorf("P8: Compress of %d bytes and %d: %q, %d", len(data), block, text, e)
			}
		}
	}
	for _, block := range []int{0, -1, 1, 200, 201, math.MinInt, math.MaxInt} {
		for _, length := range []int{301, 4001} {
			if text, e := twine.Compress(strings.Repeat("a", length), block); text != "" || e != twine.ErrLong {
				t.Errorf("P8: Compress of %d bytes and %d: %q, %d", length, block, text, e)
			}
		}
	}
}

func TestDecompressAsksForTheHead(t *testing.T) {
	for _, text := range []string{"", "T", "TW", "TWN", "TWN\x01", "TWN2\x00\x00", "twn1\x00\x00", "\x00\x00", " TWN1\x00\x00", "1NWT\x00\x00", strings.Repeat("T", 4000)} {
		checkDecompress(t, text, "", twine.ErrHead)
	}
	for _, text := range []string{strings.Repeat("T", 4001), "TWN1\x00\x00" + strings.Repeat("x", 3995), "TWN1" + strings.Repeat("\xff", 3997)} {
		checkDecompress(t, text, "", twine.ErrLong)
	}
	checkDecompress(t, "TWN1\x00\x00"+strings.Repeat("x", 3994), "", twine.ErrMore)
}

func TestDecompressTellsWhatBreaksOff(t *testing.T) {
	for _, data := range []string{"", "a", "banana", mixed(300, 256), strings.Repeat("ab", 150)} {
		for _, block := range []int{1, 5, 200} {
			text, _ := twine.Compress(data, block)
			for i := range text {
				want := twine.ErrEnd
				if i < 4 {
					want = twine.ErrHead
				}
				checkDecompress(t, text[:i], "", want)
			}
		}
	}
	for _, text := range []string{
		frame(200, 0, 0, "")[:2],
		frame(1, 0, 1, ""),
		frame(1, 0, 65535, "junk"),
		frame(1, 0, 256, strings.Repeat("j", 255)),
		frame(200, 0, 3984, strings.Repeat("j", 3983)),
	} {
		checkDecompress(t, "TWN1"+text, "", twine.ErrEnd)
	}
}

func TestDecompressAsksForLengths(t *testing.T) {
	long := strings.Repeat("a", 200)
	for _, text := range []string{
		"\xc9\x00",
		"\x00\x01",
		"\xff\xff",
		frame(201, 0, 65535, ""),
		rightFrame(long) + frame(101, 0, 65535, "")[:2],
		rightFrame(long) + rightFrame(long[:101]) + "\x00\x00",
		rightFrame(long) + rightFrame(long[:100]) + "\x01\x00",
		rightFrame(long) + rightFrame(long[:99]) + "\x02\x00",
		rightFrame("a") + "\xc9\x00",
	} {
		checkDecompress(t, "TWN1"+text, "", twine.ErrData)
	}
	checkDecompress(t, "TWN1"+rightFrame(long)+rightFrame(long[:100])+"\x00\x00", strings.Repeat("a", 300), twine.OK)
	checkDecompress(t, "TWN1"+rightFrame(long)+rightFrame(long[:99])+rightFrame("b")+"\x00\x00", strings.Repeat("a", 299)+"b", twine.OK)
	checkDecompress(t, "TWN1"+rightFrame(long)+"\x64\x00", "", twine.ErrEnd)
}

func TestDecompressTellsTheFirstThing(t *testing.T) {
	right := rightFrame("banana")
	packed, _ := twine.Pack("banana")
	sum := crc32.ChecksumIEEE([]byte("banana"))
	noText := frame(6, sum, 0, "")
	otherSum := frame(6, sum^1<<31, len(packed), packed)
	if _, e := twine.Unpack("", 6); e != twine.ErrData {
		t.Fatalf("Unpack of no bytes: %d", e)
	}
	for _, c := range []struct {
		text string
		e    twine.Errno
	}{
		{noText + "\x00\x00", twine.ErrData},
		{noText, twine.ErrData},
		{frame(6, sum+1, 0, "") + "\x00\x00more", twine.ErrData},
		{noText + otherSum, twine.ErrData},
		{otherSum + "\x00\x00", twine.ErrSum},
		{otherSum, twine.ErrSum},
		{otherSum + "\x00", twine.ErrSum},
		{otherSum + "\x00\x00more", twine.ErrSum},
		{otherSum + noText, twine.ErrSum},
		{otherSum + "\xff\xff", twine.ErrSum},
		{otherSum[:len(otherSum)-1], twine.ErrEnd},
		{right + otherSum + "\x00\x00", twine.ErrSum},
		{right + noText + "\x00\x00", twine.ErrData},
		{right + right, twine.ErrEnd},
		{right + right + "\x00\x00\x00", twine.ErrMore},
		{right + "\x00\x00" + otherSum, twine.ErrMore},
		{"\x00\x00TWN1\x00\x00", twine.ErrMore},
	} {
		checkDecompress(t, "TWN1"+c.text, "", c.e)
	}
	checkDecompress(t, "TWN1"+right+right+"\x00\x00", "bananabanana", twine.OK)
}

// slowDecompress follows P9's own words.
func slowDecompress(text string) (string, twine.Errno) {
	if len(text) > 4000 {
		return "", twine.ErrLong
	}
	if !strings.HasPrefix(text, "TWN1") {
		return "", twine.ErrHead
	}
	data, rest := "", []byte(text[4:])
	for len(rest) >= 2 && (rest[0] != 0 || rest[1] != 0) {
		size := int(binary.LittleEndian.Uint16(rest))
		if size > 200 || len(data)+size > 300 {
			return "", twine.ErrData
		}
		if len(rest) < 8 || len(rest) < 8+int(binary.LittleEndian.Uint16(rest[6:])) {
			return "", twine.ErrEnd
		}
		end := 8 + int(binary.LittleEndian.Uint16(rest[6:]))
		part, e := twine.Unpack(string(rest[8:end]), size)
		if e != twine.OK {
			return "", twine.ErrData
		}
		if crc32.ChecksumIEEE([]byte(part)) != binary.LittleEndian.Uint32(rest[2:]) {
			return "", twine.ErrSum
		}
		data, rest = data+part, rest[end:]
	}
	if len(rest) < 2 {
		return "", twine.ErrEnd
	}
	if len(rest) > 2 {
		return "", twine.ErrMore
	}
	return data, twine.OK
}

func TestDecompressOfSpoiltTexts(t *testing.T) {
	check := func(text string) {
		data, e := slowDecompress(text)
		checkDecompress(t, text, data, e)
	}
	for _, data := range []string{"", "a", "banana", mixed(300, 3), mixed(40, 256)} {
		for _, block := range []int{1, 3, 200} {
			text, _ := twine.Compress(data, block)
			text = text[:min(len(text), 500)]
			for i := range text {
				check(text[:i] + text[i+1:])
				check(text[:i] + "\x00" + text[i:])
				check(text[:i] + text[len(text)-i:])
				for bit := range 8 {
					spoilt := []byte(text)
					spoilt[i] ^= 1 << bit
					check(string(spoilt))
				}
			}
		}
	}
	for length := range 300 {
		check("TWN1" + mixed(length, 256))
		check("TWN1" + mixed(length, 3))
	}
}
