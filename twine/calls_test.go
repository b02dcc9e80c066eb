package twine_test

import (
	"math"
	"reflect"
	"slices"
	"strings"
	"sync"
	"testing"

	"twine/twine"
)

// answer is what one call told, whichever call it was.
type answer struct {
	call    string
	text    string
	texts   []string
	numbers []int
	e       twine.Errno
}

func (a answer) empty() bool {
	return a.text == "" && len(a.texts) == 0 && len(a.numbers) == 0
}

func everyCall(text string, number int) []answer {
	var answers []answer
	tell := func(call, text string, e twine.Errno) {
		answers = append(answers, answer{call: call, text: text, e: e})
	}
	texts, e := twine.Words(text)
	answers = append(answers, answer{call: "Words", texts: texts, e: e})
	numbers, e := twine.Ungamma(text)
	answers = append(answers, answer{call: "Ungamma", numbers: numbers, e: e})
	for _, c := range []struct {
		name string
		call func(string) (string, twine.Errno)
	}{{"Turn", twine.Turn}, {"Back", twine.Back}, {"Front", twine.Front}, {"Behind", twine.Behind}, {"Pack", twine.Pack}, {"Decompress", twine.Decompress}} {
		told, e := c.call(text)
		tell(c.name, told, e)
	}
	told, e := twine.Gamma(number, len(text), number)
	tell("Gamma", told, e)
	told, e = twine.Unpack(text, number)
	tell("Unpack", told, e)
	told, e = twine.Compress(text, number)
	tell("Compress", told, e)
	return answers
}

func wildTexts() []string {
	texts := append(someTexts(), textsOver("01", 6)...)
	for _, length := range []int{199, 200, 201, 299, 300, 301, 3999, 4000, 4001, 6099, 6100, 6101, 1 << 20} {
		for _, letter := range []string{"\x00", "0", "1", "\xff"} {
			texts = append(texts, strings.Repeat(letter, length))
		}
	}
	return texts
}

var wildNumbers = []int{math.MinInt, math.MinInt32, -1, 0, 1, 2, 200, 201, 1073741824, 1073741825, math.MaxInt32, math.MaxInt}

func TestEveryCallEndsAndErrorsComeAlone(t *testing.T) {
	for _, text := range wildTexts() {
		for _, number := range wildNumbers {
			for _, a := range everyCall(text, number) {
				if a.e != twine.OK && !a.empty() {
					t.Errorf("P1: %s of %d bytes and %d: error %d, and %v", a.call, len(text), number, a.e, a)
				}
				if a.e < twine.OK || a.e > twine.ErrMore {
					t.Errorf("P1: %s of %d bytes and %d: no such error: %d", a.call, len(text), number, a.e)
				}
			}
		}
	}
}

func TestLengthIsAskedAheadOfOtherWork(t *testing.T) {
	long := strings.Repeat("x", 1<<24)
	for name, call := range map[string]func() twine.Errno{
		"Words":      func() twine.Errno { _, e := twine.Words(long); return e },
		"Turn":       func() twine.Errno { _, e := twine.Turn(long); return e },
		"Back":       func() twine.Errno { _, e := twine.Back(long); return e },
		"Front":      func() twine.Errno { _, e := twine.Front(long); return e },
		"Behind":     func() twine.Errno { _, e := twine.Behind(long); return e },
		"Ungamma":    func() twine.Errno { _, e := twine.Ungamma(long); return e },
		"Pack":       func() twine.Errno { _, e := twine.Pack(long); return e },
		"Unpack":     func() twine.Errno { _, e := twine.Unpack(long, 1); return e },
		"Compress":   func() twine.Errno { _, e := twine.Compress(long, 1); return e },
		"Decompress": func() twine.Errno { _, e := twine.Decompress(long); return e },
	} {
		if e := call(); e != twine.ErrLong {
			t.Errorf("P1: %s of %d bytes: %d", name, len(long), e)
		}
		if made := testing.AllocsPerRun(10, func() { call() }); made != 0 {
			t.Errorf("P1: %s of %d bytes takes memory %v times ahead of its refusal", name, len(long), made)
		}
	}
}

func TestGammaLeavesItsListAlone(t *testing.T) {
	for _, numbers := range [][]int{{1, 5, 9}, {3, 0, -4}, slices.Repeat([]int{2, 1}, 51)} {
		roomy := append(make([]int, 0, 300), numbers...)
		bits, e := twine.Gamma(roomy...)
		if !slices.Equal(roomy, numbers) || slices.Max(roomy[len(roomy):300]) != 0 {
			t.Errorf("P1: Gamma changed %v to %v", numbers, roomy[:300])
		}
		for i := range roomy {
			roomy[i] = 77
		}
		if again, f := twine.Gamma(numbers...); again != bits || f != e {
			t.Errorf("P1, P2: Gamma(%v) = %q, %d, and then %q, %d", numbers, bits, e, again, f)
		}
	}
}

// asked is what everyCall takes.
type asked struct {
	text   string
	number int
}

// goodAsked answers texts with numbers with which each call, for some of them,
// has something to tell.
func goodAsked() []asked {
	var all []asked
	for _, text := range append(someTexts(), textsOver("\x00a1", 3)...) {
		all = append(all, asked{text, 1})
		block := text[:min(200, len(text))]
		packed, _ := twine.Pack(block)
		all = append(all, asked{packed, len(block)})
		compressed, _ := twine.Compress(text, 200)
		all = append(all, asked{compressed, 1})
	}
	return all
}

func TestGoodAskedReachesEveryCall(t *testing.T) {
	told := map[string]int{}
	for _, ask := range goodAsked() {
		for _, a := range everyCall(ask.text, ask.number) {
			if !a.empty() {
				told[a.call]++
			}
		}
	}
	if len(told) != 11 {
		t.Errorf("only these calls had something to tell: %v", told)
	}
}

func TestAnswersAreNewMemory(t *testing.T) {
	for _, ask := range goodAsked() {
		for _, a := range everyCall(ask.text, ask.number) {
			for i, told := range append(a.texts, a.text) {
				if share(told, ask.text) {
					t.Errorf("P1: %s(%q): %q is a piece of what was handed in", a.call, ask.text, told)
				}
				for _, other := range a.texts[:min(i, len(a.texts))] {
					if share(told, other) {
						t.Errorf("P1: %s(%q): two texts share memory", a.call, ask.text)
					}
				}
			}
		}
	}
}

func TestAnswersOfTwoCallsShareNothing(t *testing.T) {
	for _, ask := range goodAsked() {
		again := everyCall(ask.text, ask.number)
		for i, a := range everyCall(ask.text, ask.number) {
			for j, told := range append(a.texts, a.text) {
				if share(told, append(again[i].texts, again[i].text)[j]) {
					t.Errorf("P1: two calls of %s(%q) answer one memory", a.call, ask.text)
				}
			}
		}
	}
}

func TestAnsweredListsAreTheCallers(t *testing.T) {
	words, _ := twine.Words("banana")
	numbers, _ := twine.Ungamma("100101")
	words[0], numbers[0] = "other", 77
	words, numbers = append(words[:1], "more"), append(numbers[:1], 78)
	if again, e := twine.Words("banana"); !slices.Equal(again, []string{"b", "an", "an", "a"}) || e != twine.OK {
		t.Errorf("P1, P2: Words = %q, %d once an answer was changed to %q", again, e, words)
	}
	if again, e := twine.Ungamma("100101"); !slices.Equal(again, []int{1, 5}) || e != twine.OK {
		t.Errorf("P1, P2: Ungamma = %v, %d once an answer was changed to %v", again, e, numbers)
	}
}

func TestNothingIsKept(t *testing.T) {
	asks := goodAsked()
	for i, text := range wildTexts() {
		asks = append(asks, asked{text, i})
	}
	first := make([][]answer, len(asks))
	for i, ask := range asks {
		first[i] = everyCall(ask.text, ask.number)
	}
	for i, ask := range slices.Backward(asks) {
		if again := everyCall(strings.Clone(ask.text), ask.number); !reflect.DeepEqual(again, first[i]) {
			t.Errorf("P2: of %q first %v, then %v", ask.text, first[i], again)
		}
	}
	var all sync.WaitGroup
	for range 4 {
		all.Go(func() {
			for i, ask := range asks {
				if again := everyCall(ask.text, ask.number); !reflect.DeepEqual(again, first[i]) {
					t.Errorf("P2: of %q first %v, beside other calls %v", ask.text, first[i], again)
				}
			}
		})
	}
	all.Wait()
}
