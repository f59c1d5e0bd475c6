package tests

import (
	"math"
	"slices"
	"strings"
	"testing"

	"loop.example/golayoctads/impl"
)

// oddStep is odd, so that its multiples modulo a power of two run through all numbers below it.
const oddStep = 0x9E3779

// someWords returns the edges, each single place, each gap of one place, and words spread over all.
func someWords() []int {
	words := []int{0, 1, 5, 0x555555, 0xAAAAAA, 0x0F0F0F, 0xFFF, 0xFFF000, 8388641, impl.WordMax}
	for place := range impl.Places {
		words = append(words, 1<<place, impl.WordMax-1<<place)
	}
	for i := range 150 {
		words = append(words, (i*oddStep+12345)%(impl.WordMax+1))
	}
	return words
}

// noWords has numbers just outside, the ends of the type, and words with a high bit besides.
func noWords() []int {
	return []int{-1, -2, -impl.WordMax, impl.WordMax + 1, impl.WordMax + 2, 2*impl.WordMax + 1,
		1 << 31, 1 << 32, 1<<32 + 5, -1 << 32, 1<<62 + 1, math.MinInt, math.MaxInt}
}

// placesOf tells the places of a word by division, without the program.
func placesOf(w int) []int {
	list := []int{}
	for place := range impl.Places {
		if w%2 == 1 {
			list = append(list, place)
		}
		w /= 2
	}
	return list
}

type ofTwo struct {
	name string
	run  func(int, int) (int, bool)
	has  func(bool, bool) bool
}

func allOfTwo() []ofTwo {
	return []ofTwo{
		{"WordAdd", impl.WordAdd, func(a, b bool) bool { return a != b }},
		{"WordMeet", impl.WordMeet, func(a, b bool) bool { return a && b }},
		{"WordLess", impl.WordLess, func(a, b bool) bool { return a && !b }},
	}
}

func mustTwo(t *testing.T, f func(int, int) (int, bool), a, b int) int {
	t.Helper()
	w, ok := f(a, b)
	if !ok {
		t.Fatalf("of the words %d and %d nothing is made", a, b)
	}
	return w
}

func TestWordConstants(t *testing.T) {
	if impl.Places != 24 || impl.WordMax != 16777215 {
		t.Errorf("Places is %d and WordMax is %d", impl.Places, impl.WordMax)
	}
}

func TestWordValid(t *testing.T) {
	for _, w := range someWords() {
		if !impl.WordValid(w) {
			t.Errorf("%d is no word", w)
		}
	}
	for _, w := range noWords() {
		if impl.WordValid(w) {
			t.Errorf("%d is a word", w)
		}
	}
}

func TestPromise1AddItselfAndNone(t *testing.T) {
	for _, w := range someWords() {
		if sum := mustTwo(t, impl.WordAdd, w, w); sum != 0 {
			t.Errorf("%d added to itself is %d", w, sum)
		}
		if sum := mustTwo(t, impl.WordAdd, w, 0); sum != w {
			t.Errorf("%d added to 0 is %d", w, sum)
		}
	}
}

func TestPromise2Weight(t *testing.T) {
	for _, w := range someWords() {
		n := impl.WordWeight(w)
		list, ok := impl.WordPlaces(w)
		if !ok || n != len(list) || n != len(placesOf(w)) {
			t.Errorf("the weight of %d is %d, its places are %v", w, n, list)
		}
		if rest := impl.WordWeight(impl.WordMax - w); rest != impl.Places-n {
			t.Errorf("the weight of %d is %d, and without it %d", w, n, rest)
		}
	}
	for _, w := range noWords() {
		if n := impl.WordWeight(w); n != -1 {
			t.Errorf("the weight of %d is %d", w, n)
		}
	}
	if impl.WordWeight(0) != 0 || impl.WordWeight(impl.WordMax) != 24 {
		t.Error("the weights of 0 and of the greatest word are not 0 and 24")
	}
}

func TestMadeOfTwoWordsPlaceByPlace(t *testing.T) {
	words := someWords()
	for _, f := range allOfTwo() {
		for _, a := range words {
			for _, b := range words {
				want := 0
				for place := range impl.Places {
					if f.has(a>>place&1 == 1, b>>place&1 == 1) {
						want += 1 << place
					}
				}
				if w := mustTwo(t, f.run, a, b); w != want {
					t.Fatalf("%s of %d and %d is %d, not %d", f.name, a, b, w, want)
				}
			}
		}
	}
}

func TestMadeOfTwoWordsFails(t *testing.T) {
	for _, f := range allOfTwo() {
		for _, bad := range noWords() {
			for _, pair := range [][2]int{{bad, 0}, {0, bad}, {bad, impl.WordMax}, {impl.WordMax, bad}, {bad, bad}} {
				if w, ok := f.run(pair[0], pair[1]); ok || w != 0 {
					t.Errorf("%s of %v is %d, %t", f.name, pair, w, ok)
				}
			}
		}
	}
}

func TestPromise3AddExchanged(t *testing.T) {
	for _, a := range someWords() {
		for _, b := range someWords() {
			sum := mustTwo(t, impl.WordAdd, a, b)
			if turned := mustTwo(t, impl.WordAdd, b, a); turned != sum {
				t.Fatalf("the sum of %d and %d is %d, exchanged %d", a, b, sum, turned)
			}
			common := impl.WordWeight(mustTwo(t, impl.WordMeet, a, b))
			if n := impl.WordWeight(sum); n != impl.WordWeight(a)+impl.WordWeight(b)-2*common {
				t.Fatalf("the sum of %d and %d has the weight %d", a, b, n)
			}
		}
	}
}

func TestPromise4Meet(t *testing.T) {
	for _, a := range someWords() {
		for _, b := range someWords() {
			common := mustTwo(t, impl.WordMeet, a, b)
			if turned := mustTwo(t, impl.WordMeet, b, a); turned != common {
				t.Fatalf("%d and %d meet in %d, exchanged in %d", a, b, common, turned)
			}
			rest := mustTwo(t, impl.WordLess, a, b)
			if whole := mustTwo(t, impl.WordAdd, common, rest); whole != a {
				t.Fatalf("%d with %d and without it is %d", a, b, whole)
			}
		}
	}
}

func TestPromise5Less(t *testing.T) {
	for _, a := range someWords() {
		for _, b := range someWords() {
			rest := mustTwo(t, impl.WordLess, a, b)
			if common := mustTwo(t, impl.WordMeet, rest, b); common != 0 {
				t.Fatalf("%d less %d is %d and meets it in %d", a, b, rest, common)
			}
			if common := mustTwo(t, impl.WordMeet, rest, a); common != rest {
				t.Fatalf("%d less %d is %d and meets the first one in %d", a, b, rest, common)
			}
		}
	}
}

func TestPromise6Places(t *testing.T) {
	for _, w := range someWords() {
		list, ok := impl.WordPlaces(w)
		if !ok || !slices.Equal(list, placesOf(w)) {
			t.Fatalf("the places of %d are %v, %t", w, list, ok)
		}
		for i := range len(list) - 1 {
			if list[i] >= list[i+1] {
				t.Fatalf("the places %v of %d do not ascend", list, w)
			}
		}
		if back, fine := impl.WordOf(list); !fine || back != w {
			t.Fatalf("the word of the places %v is %d, %t, not %d", list, back, fine, w)
		}
	}
	for _, w := range noWords() {
		if list, ok := impl.WordPlaces(w); ok || len(list) != 0 {
			t.Errorf("the places of %d are %v, %t", w, list, ok)
		}
	}
}

func TestPlacesAreNewMemory(t *testing.T) {
	first, _ := impl.WordPlaces(impl.WordMax)
	clear(first)
	second, ok := impl.WordPlaces(impl.WordMax)
	if !ok || !slices.Equal(second, placesOf(impl.WordMax)) {
		t.Errorf("the places changed to %v with an earlier result", second)
	}
}

func TestPromise7Of(t *testing.T) {
	for _, w := range someWords() {
		list := placesOf(w)
		got, ok := impl.WordOf(list)
		if !ok || got != w || impl.WordWeight(got) != len(list) {
			t.Fatalf("the word of %v is %d, %t", list, got, ok)
		}
		slices.Reverse(list)
		kept := slices.Clone(list)
		if turned, fine := impl.WordOf(list); !fine || turned != got {
			t.Fatalf("the word of %v is %d, %t, not %d", list, turned, fine, got)
		}
		if !slices.Equal(list, kept) {
			t.Fatalf("the list %v became %v", kept, list)
		}
	}
	for _, list := range [][]int{nil, {}} {
		if w, ok := impl.WordOf(list); !ok || w != 0 {
			t.Errorf("the word of no places is %d, %t", w, ok)
		}
	}
	if w, ok := impl.WordOf([]int{23, 7, 0, 12}); !ok || w != 1<<23+1<<7+1+1<<12 {
		t.Errorf("the word of four places without order is %d, %t", w, ok)
	}
}

func TestOfFails(t *testing.T) {
	lists := [][]int{{-1}, {24}, {0, 24}, {24, 0}, {-1, 23}, {23, -1}, {0, 0}, {23, 23}, {5, 7, 5}, {0, 1, 2, 2},
		{5, 5, 5}, {0, 0, 23}, {math.MinInt}, {math.MaxInt}, {32}, {64}, {-64}, {1 << 32}, {3, 1<<32 + 4},
		append(placesOf(impl.WordMax), 0), append(placesOf(impl.WordMax), 24), append(placesOf(impl.WordMax), -1)}
	for place := range impl.Places {
		lists = append(lists, []int{place, place}, []int{place + 24}, []int{place - 24})
	}
	for _, list := range lists {
		if w, ok := impl.WordOf(list); ok || w != 0 {
			t.Errorf("the word of %v is %d, %t", list, w, ok)
		}
	}
}

// textOf makes the text of a word from the definition of rows and columns, without the program.
func textOf(w int) string {
	rows := []string{}
	for row := range 4 {
		line := ""
		for column := range 6 {
			mark := "."
			if slices.Contains(placesOf(w), 4*column+row) {
				mark = "x"
			}
			line += mark
		}
		rows = append(rows, line)
	}
	return strings.Join(rows, "/")
}

func TestPromise8Text(t *testing.T) {
	for _, w := range someWords() {
		s, ok := impl.WordText(w)
		if !ok || len(s) != 27 || s != textOf(w) {
			t.Fatalf("the text of %d is %q, %t, not %q", w, s, ok, textOf(w))
		}
		if back, fine := impl.WordRead(s); !fine || back != w {
			t.Fatalf("read from %q is %d, %t, not %d", s, back, fine, w)
		}
	}
	for _, w := range noWords() {
		if s, ok := impl.WordText(w); ok || s != "" {
			t.Errorf("the text of %d is %q, %t", w, s, ok)
		}
	}
}

func TestTextsToldOutright(t *testing.T) {
	texts := map[int]string{
		0:            "....../....../....../......",
		impl.WordMax: "xxxxxx/xxxxxx/xxxxxx/xxxxxx",
		1:            "x...../....../....../......",
		1 << 3:       "....../....../....../x.....",
		1 << 4:       ".x..../....../....../......",
		1 << 20:      ".....x/....../....../......",
		1 << 23:      "....../....../....../.....x",
		30583:        "xxxx../xxxx../xxxx../......",
	}
	for w, want := range texts {
		if s, ok := impl.WordText(w); !ok || s != want {
			t.Errorf("the text of %d is %q, %t, not %q", w, s, ok, want)
		}
		if got, ok := impl.WordRead(want); !ok || got != w {
			t.Errorf("read from %q is %d, %t, not %d", want, got, ok, w)
		}
	}
}

func TestPromise9Read(t *testing.T) {
	for _, w := range someWords() {
		s := textOf(w)
		got, ok := impl.WordRead(s)
		if !ok || got != w {
			t.Fatalf("read from %q is %d, %t, not %d", s, got, ok, w)
		}
		if back, fine := impl.WordText(got); !fine || back != s {
			t.Fatalf("the text of %d is %q, %t, not %q", got, back, fine, s)
		}
	}
}

// TestReadFailsForEachOtherByte puts each byte at each position of a text: only two of them make one.
func TestReadFailsForEachOtherByte(t *testing.T) {
	const base = "x.x.x./.x.x.x/x.x.x./.x.x.x"
	for i := range len(base) {
		for b := range 256 {
			s := base[:i] + string([]byte{byte(b)}) + base[i+1:]
			good := b == 'x' || b == '.'
			if base[i] == '/' {
				good = b == '/'
			}
			w, ok := impl.WordRead(s)
			if ok != good || !ok && w != 0 {
				t.Errorf("read from %q is %d, %t", s, w, ok)
			}
		}
	}
}

func TestReadFails(t *testing.T) {
	const zero = "....../....../....../......"
	texts := []string{"", "x", "/", "///", "x/x/x/x", zero[:26], zero[1:], zero + ".", zero + "/", zero + "\n", " " + zero, zero + " ",
		zero + "/......", "....../....../......", "......./...../....../......", "...../......./....../......", "............/............/.",
		"........................", "...........................", "///////////////////////////", strings.Repeat("x", 24),
		strings.ToUpper("xxxxxx/xxxxxx/xxxxxx/xxxxxx"), "......\\......\\......\\......", "......\n......\n......\n......",
		"00000000000000000000000000x", "...é./....../....../......", zero + zero, strings.Repeat("x", 1000), "\x00" + zero[1:]}
	for _, s := range texts {
		if w, ok := impl.WordRead(s); ok || w != 0 {
			t.Errorf("read from %q is %d, %t", s, w, ok)
		}
	}
}

// nextOfWeight returns the least greater word of the same weight, or false. It moves the lowest
// place that has an empty one above it up by one, and all places below it to the bottom.
func nextOfWeight(w int) (int, bool) {
	below := 0
	for place := range impl.Places - 1 {
		if w>>place&1 == 1 {
			if w>>(place+1)&1 == 0 {
				return w>>(place+2)<<(place+2) + 1<<(place+1) + 1<<below - 1, true
			}
			below++
		}
	}
	return 0, false
}

func TestPromise10RankOfTheNext(t *testing.T) {
	for _, w := range someWords() {
		rank, ok := impl.WordRank(w)
		if !ok || rank < 0 {
			t.Fatalf("the rank of %d is %d, %t", w, rank, ok)
		}
		next, more := nextOfWeight(w)
		if !more {
			continue
		}
		if n, fine := impl.WordRank(next); !fine || n != rank+1 {
			t.Fatalf("the rank of %d is %d, that of the next word %d is %d", w, rank, next, n)
		}
	}
	for _, w := range noWords() {
		if rank, ok := impl.WordRank(w); ok || rank != 0 {
			t.Errorf("the rank of %d is %d, %t", w, rank, ok)
		}
	}
}

// TestRankCounted counts the lesser words of each weight: the ranks of all words, in ascending order.
func TestRankCounted(t *testing.T) {
	var seen [impl.Places + 1]int
	for w := range impl.WordMax + 1 {
		weight := impl.WordWeight(w)
		if rank, ok := impl.WordRank(w); !ok || rank != seen[weight] {
			t.Fatalf("the rank of %d is %d, %t, not %d", w, rank, ok, seen[weight])
		}
		seen[weight]++
	}
	if seen[0] != 1 || seen[1] != 24 || seen[12] != 2704156 || seen[24] != 1 {
		t.Errorf("the words of each weight are %v", seen)
	}
}

func TestRankOfTheEnds(t *testing.T) {
	ranks := map[int]int{0: 0, impl.WordMax: 0, 1: 0, 1 << 23: 23, 3: 0, 5: 1, 6: 2, 9: 3,
		impl.WordMax - 1: 23, impl.WordMax - 1<<23: 0, 0xFFF: 0, 0xFFF000: 2704155}
	for w, want := range ranks {
		if rank, ok := impl.WordRank(w); !ok || rank != want {
			t.Errorf("the rank of %d is %d, %t, not %d", w, rank, ok, want)
		}
	}
}
