package twine_test

import (
	"math"
	"slices"
	"strconv"
	"strings"
	"testing"

	"twine/twine"
)

const maxNumber = 1073741824

func slowGamma(numbers []int) string {
	text := ""
	for _, number := range numbers {
		digits := strconv.FormatInt(int64(number), 2)
		text += strings.Repeat("0", len(digits)-1) + digits
	}
	return text
}

func checkGamma(t *testing.T, numbers []int) {
	t.Helper()
	bits, e := twine.Gamma(numbers...)
	if want := slowGamma(numbers); bits != want || e != twine.OK {
		t.Errorf("P6: Gamma(%v) = %q, %d, want %q", numbers, bits, e, want)
	}
	if again, e := twine.Ungamma(bits); !slices.Equal(again, numbers) || e != twine.OK {
		t.Errorf("P6: Ungamma(%q) = %v, %d, want %v", bits, again, e, numbers)
	}
}

func TestGammaWritesAndUngammaReads(t *testing.T) {
	if bits, e := twine.Gamma(); bits != "" || e != twine.OK {
		t.Errorf("P6: Gamma() = %q, %d", bits, e)
	}
	if bits, e := twine.Gamma(1, 5); bits != "100101" || e != twine.OK {
		t.Errorf("P6: Gamma(1, 5) = %q, %d", bits, e)
	}
	for number := 1; number <= 3000; number++ {
		checkGamma(t, []int{number})
		checkGamma(t, []int{number, 1, 3001 - number})
	}
	for power := 2; power <= maxNumber; power *= 2 {
		checkGamma(t, []int{power - 1, power, power/2 + 1})
	}
	checkGamma(t, []int{1})
	checkGamma(t, []int{maxNumber})
	checkGamma(t, []int{maxNumber, maxNumber - 1, 1, maxNumber})
	for _, length := range []int{0, 1, 99, 100} {
		checkGamma(t, slices.Repeat([]int{1}, length))
		checkGamma(t, slices.Repeat([]int{maxNumber}, length))
	}
}

func TestGammaRefuses(t *testing.T) {
	for _, wrong := range []int{0, -1, -maxNumber, maxNumber + 1, math.MaxInt32, math.MinInt32, math.MaxInt, math.MinInt} {
		filled := slices.Repeat([]int{7}, 99)
		for _, numbers := range [][]int{{wrong}, {wrong, 1}, {1, wrong}, {1, wrong, 2}, append(filled, wrong)} {
			if bits, e := twine.Gamma(numbers...); bits != "" || e != twine.ErrArg {
				t.Errorf("P6: Gamma(%v) = %q, %d", numbers, bits, e)
			}
		}
		// The length is named first.
		for _, length := range []int{101, 5000} {
			if bits, e := twine.Gamma(slices.Repeat([]int{wrong}, length)...); bits != "" || e != twine.ErrLong {
				t.Errorf("P6: Gamma of %d times %d = %q, %d", length, wrong, bits, e)
			}
		}
	}
	if bits, e := twine.Gamma(slices.Repeat([]int{1}, 101)...); bits != "" || e != twine.ErrLong {
		t.Errorf("P6: Gamma of 101 numbers = %q, %d", bits, e)
	}
}

// gammaAnswers holds the numbers of each of Gamma's answers of at most so many bits.
func gammaAnswers(most int) map[string][]int {
	answers := map[string][]int{"": nil}
	waiting := []string{""}
	for len(waiting) > 0 {
		bits := waiting[0]
		waiting = waiting[1:]
		for number := 1; ; number++ {
			numbers := append(slices.Clone(answers[bits]), number)
			longer := slowGamma(numbers)
			if len(longer) > most {
				break
			}
			answers[longer] = numbers
			waiting = append(waiting, longer)
		}
	}
	return answers
}

func TestUngammaReadsJustGammasAnswers(t *testing.T) {
	answers := gammaAnswers(11)
	for _, bits := range append(textsOver("01", 11), textsOver("01x", 7)...) {
		want, ok := answers[bits]
		numbers, e := twine.Ungamma(bits)
		if ok && (e != twine.OK || !slices.Equal(numbers, want)) {
			t.Errorf("P6: Ungamma(%q) = %v, %d, want %v", bits, numbers, e, want)
		}
		if !ok && (e != twine.ErrBits || len(numbers) != 0) {
			t.Errorf("P6: Ungamma(%q) = %v, %d, want error %d", bits, numbers, e, twine.ErrBits)
		}
	}
}

func TestUngammaRefuses(t *testing.T) {
	zeros := func(count int) string { return strings.Repeat("0", count) }
	greatest := zeros(30) + "1" + zeros(30)
	for _, bits := range []string{
		"0", "01", "00", "001", "0010", "10", "1 ", " 1", "+1", "1\n", "\x00", "\x01", "1\x00", "/", ":", "\xb0", "\u0661",
		greatest[:60],
		greatest + "0",
		zeros(30) + "1" + zeros(29) + "1", // MaxNumber + 1
		zeros(30) + strings.Repeat("1", 31),
		zeros(31) + "1" + zeros(31),
		zeros(63) + "1" + zeros(63),
		zeros(64) + "1" + zeros(64),
		zeros(64) + "1" + zeros(63) + "1",
		zeros(3050) + "1" + zeros(3049),
		strings.Repeat("1", 101),
		strings.Repeat("1", 100) + "0",
		strings.Repeat("1", 100) + "x",
		strings.Repeat("1", 6100),
		strings.Repeat("x", 6100),
		zeros(6100),
		strings.Repeat(greatest, 99) + zeros(61),
	} {
		if numbers, e := twine.Ungamma(bits); len(numbers) != 0 || e != twine.ErrBits {
			t.Errorf("P6: Ungamma(%q) = %v, %d", bits, numbers, e)
		}
	}
	for _, letter := range []string{"0", "1", "x"} {
		if numbers, e := twine.Ungamma(strings.Repeat(letter, 6101)); len(numbers) != 0 || e != twine.ErrLong {
			t.Errorf("P6: Ungamma of 6101 times %q = %v, %d", letter, numbers, e)
		}
	}
	full := strings.Repeat(greatest, 100)
	if numbers, e := twine.Ungamma(full); len(full) != 6100 || len(numbers) != 100 || e != twine.OK {
		t.Errorf("P6: Ungamma of %d bits = %v, %d", len(full), numbers, e)
	}
	if numbers, e := twine.Ungamma(full + "1"); len(numbers) != 0 || e != twine.ErrLong {
		t.Errorf("P6: Ungamma of 6101 bits = %v, %d", numbers, e)
	}
}
