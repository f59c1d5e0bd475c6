package impl

import (
	"iter"
	"math/bits"
	"strings"
)

// Places is the number of places of a word.
const Places = 24

// WordMax is the greatest word.
const WordMax = 16777215

const (
	rowCount    = 4
	columnCount = 6
	// Three strokes stand between the four rows of a text.
	textSize = Places + rowCount - 1
)

// A word has the bit with the value 2 to the power of i for each place i in it.
type word uint32

func wordFrom(n int) (word, bool) {
	if n < 0 || n > WordMax {
		return 0, false
	}
	return word(n), true
}

func placeValid(place int) bool {
	return 0 <= place && place < Places
}

func placeAt(row int, column int) int {
	return column*rowCount + row
}

func wordAt(place int) word {
	return 1 << place
}

func (w word) add(v word) word {
	return w ^ v
}

func (w word) meet(v word) word {
	return w & v
}

func (w word) less(v word) word {
	return w &^ v
}

func (w word) has(place int) bool {
	return w&wordAt(place) != 0
}

func (w word) weight() int {
	return bits.OnesCount32(uint32(w))
}

// places gives the places of the word in ascending order.
func (w word) places() iter.Seq[int] {
	return func(yield func(int) bool) {
		for rest := w; rest != 0; rest &= rest - 1 {
			if !yield(bits.TrailingZeros32(uint32(rest))) {
				return
			}
		}
	}
}

func (w word) text() string {
	var b strings.Builder
	for row := range rowCount {
		if row > 0 {
			b.WriteByte('/')
		}
		for column := range columnCount {
			if w.has(placeAt(row, column)) {
				b.WriteByte('x')
			} else {
				b.WriteByte('.')
			}
		}
	}
	return b.String()
}

// rank counts the lesser words of the same weight. Such a word agrees with this
// one above some place of this one, the k-th one from below, and has all its k
// remaining places below that place: there are choose(place, k) of these.
func (w word) rank() int {
	rank, k := 0, 0
	for place := range w.places() {
		k++
		rank += choose(place, k)
	}
	return rank
}

// choose returns the number of sets of k among n. The division is exact, as each
// turn leads from choose(n, i) to choose(n, i+1).
func choose(n int, k int) int {
	number := 1
	for i := range k {
		number = number * (n - i) / (i + 1)
	}
	return number
}

func ofTwoWords(a int, b int, join func(word, word) word) (int, bool) {
	first, ok := wordFrom(a)
	if !ok {
		return 0, false
	}
	second, ok := wordFrom(b)
	if !ok {
		return 0, false
	}
	return int(join(first, second)), true
}

// WordValid reports whether a number is a word.
func WordValid(w int) bool {
	_, ok := wordFrom(w)
	return ok
}

// WordWeight returns the weight of a word, or -1 if the number is none.
func WordWeight(w int) int {
	v, ok := wordFrom(w)
	if !ok {
		return -1
	}
	return v.weight()
}

// WordAdd returns the sum of two words, and true.
func WordAdd(a int, b int) (int, bool) {
	return ofTwoWords(a, b, word.add)
}

// WordMeet returns the word of the places that are in both, and true.
func WordMeet(a int, b int) (int, bool) {
	return ofTwoWords(a, b, word.meet)
}

// WordLess returns the word of the places of the first one that are not in the second one, and true.
func WordLess(a int, b int) (int, bool) {
	return ofTwoWords(a, b, word.less)
}

// WordPlaces returns the places of a word, in ascending order, and true.
func WordPlaces(w int) ([]int, bool) {
	v, ok := wordFrom(w)
	if !ok {
		return nil, false
	}
	list := make([]int, 0, v.weight())
	for place := range v.places() {
		list = append(list, place)
	}
	return list, true
}

// WordOf returns the word of a list of places, and true.
func WordOf(list []int) (int, bool) {
	var w word
	for _, place := range list {
		if !placeValid(place) || w.has(place) {
			return 0, false
		}
		w = w.add(wordAt(place))
	}
	return int(w), true
}

// WordText returns the text of a word.
func WordText(w int) (string, bool) {
	v, ok := wordFrom(w)
	if !ok {
		return "", false
	}
	return v.text(), true
}

// WordRead returns the word with a text, and true.
func WordRead(s string) (int, bool) {
	if len(s) != textSize {
		return 0, false
	}
	var w word
	for i := range len(s) {
		row, column := i/(columnCount+1), i%(columnCount+1)
		stroke := column == columnCount
		switch {
		case stroke && s[i] == '/':
		case !stroke && s[i] == '.':
		case !stroke && s[i] == 'x':
			w = w.add(wordAt(placeAt(row, column)))
		default:
			return 0, false
		}
	}
	return int(w), true
}

// WordRank returns the index, from 0 on, of a word among all words of its weight in ascending order, and true.
func WordRank(w int) (int, bool) {
	v, ok := wordFrom(w)
	if !ok {
		return 0, false
	}
	return v.rank(), true
}
