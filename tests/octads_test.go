package tests

import (
	"math"
	"math/bits"
	"slices"
	"sync"
	"testing"

	"loop.example/golayoctads/impl"
)

// codeOfWeight returns the words of the code of a weight, in ascending order.
func codeOfWeight(n int) []int {
	words := []int{}
	for _, w := range codeTold() {
		if bits.OnesCount(uint(w)) == n {
			words = append(words, w)
		}
	}
	slices.Sort(words)
	return words
}

// octadsTold is the definition of the octads, in ascending order.
var octadsTold = sync.OnceValue(func() []int { return codeOfWeight(8) })

// octadsOf returns the octads that have all places of a first word and none of a second one, in ascending order.
func octadsOf(all, none int) []int {
	octads := []int{}
	for _, w := range octadsTold() {
		if w&all == all && w&none == 0 {
			octads = append(octads, w)
		}
	}
	return octads
}

// leastOfSums has, for each sum of two octads, the least octad that makes it with another one.
var leastOfSums = sync.OnceValue(func() map[int]int {
	least := map[int]int{}
	for i, a := range octadsTold() {
		for _, b := range octadsTold()[i+1:] {
			if _, found := least[a^b]; !found {
				least[a^b] = a
			}
		}
	}
	return least
})

// noOctads has numbers that are no words, words that are not in the code, and words of the code of other weights.
func noOctads() []int {
	list := append(noWords(), 0, impl.WordMax, impl.WordMax-255, 0xEEEEE1, 0x00FFFF, 0xFF0001, 0x1FE, 254, 127, 256, 511, 15, 31,
		0x111111, 0xEEEEEE, 0x1111FF, 255|1<<24, 255|1<<32, 255|math.MinInt, -255)
	for _, w := range codeTold() {
		if bits.OnesCount(uint(w)) != 8 {
			list = append(list, w)
		}
	}
	return list
}

// ordersOf returns the list forwards, backwards, and turned and mixed in other ways.
func ordersOf(list []int) [][]int {
	n := len(list)
	back := slices.Clone(list)
	slices.Reverse(back)
	orders := [][]int{list, back}
	for _, shift := range []int{1, 2, n - 1} {
		orders = append(orders, slices.Concat(list[shift:], list[:shift]))
	}
	mixed := slices.Clone(list)
	mixed[0], mixed[n-1] = mixed[n-1], mixed[0]
	return append(orders, mixed)
}

// badPlaces has numbers that are no places, some of which are one modulo a power of two or modulo 24.
func badPlaces() []int {
	return []int{-1, -2, -24, 24, 25, 28, 32, 64, 68, 1 << 8, 1 << 32, 1<<32 + 4, -1 << 32, 1<<62 + 4, math.MinInt, math.MaxInt}
}

// wrongLists returns lists of n places of which one is no place or is there twice.
func wrongLists(n int) [][]int {
	lists := [][]int{slices.Repeat([]int{5}, n), slices.Repeat([]int{0}, n), slices.Repeat([]int{23}, n)}
	for k := range n {
		for _, bad := range badPlaces() {
			list := placesOf(1<<n - 1)
			list[k] = bad
			lists = append(lists, list)
		}
		for other := range n {
			if other != k {
				list := placesOf(1<<n - 1)
				list[k] = list[other]
				lists = append(lists, list)
			}
		}
	}
	return lists
}

// longPlaces returns n different places, or all and then some of them again if n is more than 24.
func longPlaces(n int) []int {
	list := []int{}
	for i := range n {
		list = append(list, i%24)
	}
	return list
}

func mustThrough(t *testing.T, list []int) int {
	t.Helper()
	w, ok := impl.OctadThrough(list)
	if !ok {
		t.Fatalf("through %v there is no octad", list)
	}
	return w
}

func mustList(t *testing.T, list []int) []int {
	t.Helper()
	octads, ok := impl.OctadList(list)
	if !ok {
		t.Fatalf("octads with %v are not listed", list)
	}
	return octads
}

func mustCount(t *testing.T, a, b int) int {
	t.Helper()
	n, ok := impl.OctadCount(a, b)
	if !ok {
		t.Fatalf("octads with %d and without %d are not counted", a, b)
	}
	return n
}

func mustMeet(t *testing.T, w int) []int {
	t.Helper()
	counts, ok := impl.OctadMeet(w)
	if !ok || len(counts) != 9 {
		t.Fatalf("the meets of %d are %v, %t", w, counts, ok)
	}
	return counts
}

func mustTriangle(t *testing.T, w int) [][]int {
	t.Helper()
	rows, ok := impl.OctadTriangle(w)
	if !ok || len(rows) != 9 {
		t.Fatalf("the triangle of %d is %v, %t", w, rows, ok)
	}
	for i, row := range rows {
		if len(row) != i+1 {
			t.Fatalf("the row %d of the triangle of %d is %v", i, w, row)
		}
	}
	return rows
}

func TestPromise29In(t *testing.T) {
	if len(octadsTold()) != 759 {
		t.Fatalf("the definition has %d octads", len(octadsTold()))
	}
	for _, w := range octadsTold() {
		places := placesOf(w)
		if !impl.OctadIn(w) {
			t.Fatalf("%d is no octad", w)
		}
		if first, last := mustThrough(t, places[:5]), mustThrough(t, places[3:]); first != w || last != w {
			t.Fatalf("the octads through the first and the last five of %v are %d and %d, not %d", places, first, last, w)
		}
	}
	for _, w := range slices.Concat(someWords(), wordsOfWeight(8), noOctads()) {
		_, want := slices.BinarySearch(octadsTold(), w)
		if in := impl.OctadIn(w); in != want {
			t.Fatalf("that %d is an octad is %t", w, in)
		}
	}
}

func TestInToldOutright(t *testing.T) {
	octads := map[int]bool{
		0x0000FF: true, 0xFF0000: true, 0x0F000F: true, 0x11111E: true, 0x666600: true,
		0xEEEEE1: false, 0x117778: false, 0: false, impl.WordMax: false, impl.WordMax - 255: false, // other words of the code
		254: false, 511: false, 0x1FE: false, 0x666060: false, -255: false,
	}
	for w, want := range octads {
		if in := impl.OctadIn(w); in != want {
			t.Errorf("that %#x is an octad is %t", w, in)
		}
	}
}

func TestPromise30Through(t *testing.T) {
	for i, w := range wordsOfWeight(5) {
		if i%3 != 0 {
			continue
		}
		list := placesOf(w)
		octad := mustThrough(t, list)
		if want := octadsOf(w, 0); len(want) != 1 || octad != want[0] {
			t.Fatalf("through %v is %d, not %v", list, octad, want)
		}
		if !impl.OctadIn(octad) || mustCount(t, w, 0) != 1 {
			t.Fatalf("through %v is %d, and %d octads are counted", list, octad, mustCount(t, w, 0))
		}
	}
}

// TestThroughColumns has each column and each other place: the two columns are the octad.
func TestThroughColumns(t *testing.T) {
	for column := range 6 {
		for place := range 24 {
			if place/4 == column {
				continue
			}
			list := append(placesOf(15<<(4*column)), place)
			want := 15<<(4*column) | 15<<(place/4*4)
			for _, order := range ordersOf(list) {
				if w := mustThrough(t, order); w != want {
					t.Fatalf("through %v is %#x, not %#x", order, w, want)
				}
			}
		}
	}
}

func TestThroughInAnyOrder(t *testing.T) {
	for i, w := range wordsOfWeight(5) {
		if i%197 != 0 && (i%5 != 0 || w&0x800001 != 0x800001) {
			continue
		}
		want := octadsOf(w, 0)[0]
		for _, order := range ordersOf(placesOf(w)) {
			if octad := mustThrough(t, order); octad != want {
				t.Fatalf("through %v is %d, not %d", order, octad, want)
			}
		}
	}
}

func TestThroughFails(t *testing.T) {
	lists := wrongLists(5)
	for n := range 30 {
		if n != 5 {
			lists = append(lists, longPlaces(n))
		}
	}
	lists = append(lists, nil, []int{}, []int{0, 1, 2, 3, 4, 4}, []int{0, 0, 1, 2, 3, 4}, []int{0, 1, 2, 3, 4, 24}, []int{4, 0, 1, 2, 4},
		placesOf(255), slices.Repeat([]int{0, 1, 2, 3, 4}, 2), []int{255})
	for _, list := range lists {
		if w, ok := impl.OctadThrough(list); ok || w != 0 {
			t.Errorf("through %v is %d, %t", list, w, ok)
		}
	}
}

func checkList(t *testing.T, w int) {
	t.Helper()
	list := placesOf(w)
	octads := mustList(t, list)
	if want := octadsOf(w, 0); !slices.Equal(octads, want) {
		t.Fatalf("the octads with %v are %v, not %v", list, octads, want)
	}
	numbers := map[int]int{3: 21, 4: 5, 5: 1}
	if n, told := numbers[len(list)]; told && len(octads) != n || len(octads) > 21 || !told && len(octads) > 1 {
		t.Fatalf("there are %d octads with %v", len(octads), list)
	}
	for i, octad := range octads {
		if !impl.OctadIn(octad) || octad&w != w || i > 0 && octads[i-1] >= octad {
			t.Fatalf("among the octads with %v is %d at %d: %v", list, octad, i, octads)
		}
	}
}

func TestPromise31List(t *testing.T) {
	steps := []int{3: 1, 4: 3, 5: 23, 6: 101, 7: 397, 8: 1009}
	for n := 3; n <= 8; n++ {
		for i, w := range wordsOfWeight(n) {
			if i%steps[n] == 0 {
				checkList(t, w)
			}
		}
	}
	for _, w := range octadsTold() {
		places := placesOf(w)
		for n := 3; n <= 8; n++ {
			part, _ := impl.WordOf(places[8-n:])
			checkList(t, part)
		}
		checkList(t, w^1<<places[7]^1<<((places[7]+1)%24)) // seven places of it or six, and another one
	}
}

func TestListToldOutright(t *testing.T) {
	cases := []struct {
		list   []int
		octads []int
	}{
		{[]int{0, 1, 2, 3}, []int{0x0000FF, 0x000F0F, 0x00F00F, 0x0F000F, 0xF0000F}},
		{[]int{23, 20, 22, 21}, []int{0xF0000F, 0xF000F0, 0xF00F00, 0xF0F000, 0xFF0000}},
		{[]int{0, 1, 2, 3, 23}, []int{0xF0000F}},
		{[]int{23, 3, 2, 1, 0, 22}, []int{0xF0000F}},
		{[]int{0, 1, 2, 3, 22, 4}, []int{}},
		{[]int{7, 6, 5, 4, 3, 2, 1}, []int{255}},
		{[]int{8, 6, 5, 4, 3, 2, 1}, []int{}},
		{[]int{7, 0, 6, 1, 5, 2, 4, 3}, []int{255}},
		{[]int{8, 0, 6, 1, 5, 2, 4, 3}, []int{}},
	}
	for _, c := range cases {
		if octads := mustList(t, c.list); !slices.Equal(octads, c.octads) {
			t.Errorf("the octads with %v are %#x, not %#x", c.list, octads, c.octads)
		}
	}
}

func TestListInAnyOrder(t *testing.T) {
	for n := 3; n <= 8; n++ {
		words := []int{1<<n - 1, 1<<(n-1) - 1 | 1<<23, impl.WordMax - (1<<(24-n) - 1), 0x249249 & (1<<(3*n) - 1)}
		for _, w := range append(words, octadsTold()[100]) {
			if len(placesOf(w)) != n {
				continue
			}
			for _, order := range ordersOf(placesOf(w)) {
				if octads := mustList(t, order); !slices.Equal(octads, octadsOf(w, 0)) {
					t.Fatalf("the octads with %v are %v, not %v", order, octads, octadsOf(w, 0))
				}
			}
		}
	}
}

func TestListFails(t *testing.T) {
	lists := [][]int{nil, {}, {0}, {23}, {0, 1}, {0, 23}, {1, 1}, {24, 25, 26}, {0, 1, 2, 3, 4, 5, 6, 7, 7}, {255}}
	for n := 9; n < 30; n++ {
		lists = append(lists, longPlaces(n))
	}
	for n := 3; n <= 8; n++ {
		lists = append(lists, wrongLists(n)...)
	}
	for _, list := range lists {
		if octads, ok := impl.OctadList(list); ok || len(octads) != 0 {
			t.Errorf("the octads with %v are %v, %t", list, octads, ok)
		}
	}
}

func checkCount(t *testing.T, a, b int) {
	t.Helper()
	n := mustCount(t, a, b)
	if want := len(octadsOf(a, b)); n != want {
		t.Fatalf("with %d and without %d are %d octads, not %d", a, b, n, want)
	}
	if a&b != 0 && n != 0 {
		t.Fatalf("with %d and without %d are %d octads", a, b, n)
	}
	if (a|b)&1 == 0 {
		if with, without := mustCount(t, a|1, b), mustCount(t, a, b|1); with+without != n {
			t.Fatalf("with %d and without %d are %d octads: %d with the place 0, %d without it", a, b, n, with, without)
		}
	}
}

func TestPromise32Count(t *testing.T) {
	if n := mustCount(t, 0, 0); n != 759 {
		t.Fatalf("there are %d octads", n)
	}
	words := []int{0, 1, 2, 6, 0x800000, 0x800001, 7, 14, 15, 30, 31, 255, 510, 0x111110, 0x888888, 0xEEEEE0, 0xFFFF00, 0xFFFFFE, impl.WordMax}
	words = append(words, octadsTold()[500], octadsTold()[501]&^1, codeOfWeight(12)[1000]&^1)
	for _, a := range words {
		for _, b := range words {
			checkCount(t, a, b)
		}
	}
	for i, w := range someWords() {
		other := someWords()[(i*7+3)%len(someWords())]
		checkCount(t, w&0x111C82, other&^1)
		checkCount(t, w&0xC0060&^other, other&0xF3FF9E)
		checkCount(t, 0, w&other)
	}
}

func TestCountToldOutright(t *testing.T) {
	cases := [][3]int{{0, 0, 759}, {1, 0, 253}, {3, 0, 77}, {7, 0, 21}, {15, 0, 5}, {31, 0, 1}, {63, 0, 1}, {255, 0, 1}, {511, 0, 0},
		{0, 1, 506}, {0, 3, 330}, {1, 2, 176}, {0, 255, 30}, {15, 240, 4}, {0, 0xFFFF00, 1}, {255, 0xFFFF00, 1}, {0x800000, 0, 253},
		{0x800000, 1, 176}, {1, 1, 0}, {255, 128, 0}, {0x800001, 0x800000, 0}, {0, impl.WordMax, 0}, {impl.WordMax, 0, 0},
		{impl.WordMax, impl.WordMax, 0}, {0x00F00F, 0, 1}, {0x0F0000, 0xF00000, 4}}
	for _, c := range cases {
		if n := mustCount(t, c[0], c[1]); n != c[2] {
			t.Errorf("with %#x and without %#x are %d octads, not %d", c[0], c[1], n, c[2])
		}
	}
}

func TestCountFails(t *testing.T) {
	for _, bad := range noWords() {
		for _, pair := range [][2]int{{bad, 0}, {0, bad}, {bad, bad}, {bad, 255}, {255, bad}, {impl.WordMax, bad}} {
			if n, ok := impl.OctadCount(pair[0], pair[1]); ok || n != 0 {
				t.Errorf("with %d and without %d are %d octads, %t", pair[0], pair[1], n, ok)
			}
		}
	}
}

func TestPromise33Meet(t *testing.T) {
	for _, w := range octadsTold() {
		counts := mustMeet(t, w)
		if !slices.Equal(counts, []int{30, 0, 448, 0, 280, 0, 0, 0, 1}) {
			t.Fatalf("the meets of %d are %v", w, counts)
		}
	}
	for _, w := range noOctads() {
		if counts, ok := impl.OctadMeet(w); ok || len(counts) != 0 {
			t.Errorf("the meets of %d are %v, %t", w, counts, ok)
		}
	}
}

// triangleTold counts row by row, by the definition.
func triangleTold(w int) [][]int {
	places, rows := placesOf(w), [][]int{}
	for i := range 9 {
		all, _ := impl.WordOf(places[:i])
		row := []int{}
		for k := range i + 1 {
			first, _ := impl.WordOf(places[:k])
			row = append(row, len(octadsOf(first, all&^first)))
		}
		rows = append(rows, row)
	}
	return rows
}

func TestPromise34Triangle(t *testing.T) {
	for n, w := range octadsTold() {
		rows := mustTriangle(t, w)
		if n%25 == 0 && !slices.EqualFunc(rows, triangleTold(w), slices.Equal) {
			t.Fatalf("the triangle of %d is %v, not %v", w, rows, triangleTold(w))
		}
		for i := range 8 {
			for k, number := range rows[i] {
				if number != rows[i+1][k]+rows[i+1][k+1] {
					t.Fatalf("the triangle of %d has %d in row %d above the row %v", w, number, i, rows[i+1])
				}
			}
		}
		for i, want := range []int{759, 253, 77, 21, 5, 1} {
			if rows[i][i] != want {
				t.Fatalf("the triangle of %d ends row %d with %d", w, i, rows[i][i])
			}
		}
	}
	for _, w := range noOctads() {
		if rows, ok := impl.OctadTriangle(w); ok || len(rows) != 0 {
			t.Errorf("the triangle of %d is %v, %t", w, rows, ok)
		}
	}
}

func TestTriangleToldOutright(t *testing.T) {
	want := [][]int{
		{759},
		{506, 253},
		{330, 176, 77},
		{210, 120, 56, 21},
		{130, 80, 40, 16, 5},
		{78, 52, 28, 12, 4, 1},
		{46, 32, 20, 8, 4, 0, 1},
		{30, 16, 16, 4, 4, 0, 0, 1},
		{30, 0, 16, 0, 4, 0, 0, 0, 1},
	}
	for _, w := range []int{255, 0xFF0000, 0x11111E, octadsTold()[0], octadsTold()[758]} {
		if rows := mustTriangle(t, w); !slices.EqualFunc(rows, want, slices.Equal) {
			t.Errorf("the triangle of %d is %v", w, rows)
		}
	}
}

func TestPromise35Pair(t *testing.T) {
	pairs := map[int]int{}
	for i, a := range octadsTold() {
		for k, b := range octadsTold() {
			if (i+k)%5 != 0 && i != k {
				continue
			}
			meet := bits.OnesCount(uint(a & b))
			sum, ok := impl.OctadPair(a, b)
			if ok != (meet == 4) || ok && (sum != a^b || !impl.OctadIn(sum)) || !ok && sum != 0 {
				t.Fatalf("the pair %d and %d, which meet in %d places, is %d, %t", a, b, meet, sum, ok)
			}
			if ok && (bits.OnesCount(uint(sum&a)) != 4 || bits.OnesCount(uint(sum&b)) != 4) {
				t.Fatalf("the pair %d and %d is %d, which doesn't meet both in four places", a, b, sum)
			}
			pairs[meet]++
		}
	}
	if len(pairs) != 4 || pairs[0] == 0 || pairs[2] == 0 || pairs[4] == 0 || pairs[8] != 759 {
		t.Errorf("there are pairs that meet in %v places", pairs)
	}
}

func TestPairToldOutright(t *testing.T) {
	cases := []struct {
		a, b, sum int
		ok        bool
	}{
		{0x0000FF, 0x000F0F, 0x000FF0, true}, // four common places
		{0xF0000F, 0x0000FF, 0xF000F0, true},
		{0x11111E, 0x0000FF, 0x1111E1, true},
		{0x1111E1, 0x11111E, 0x0000FF, true},
		{0x11111E, 0x0FF000, 0, false}, // two common places
		{0x0000FF, 0x00FF00, 0, false}, // no common place
		{0x0000FF, 0x0000FF, 0, false}, // eight common places
		{0x0000FF, 0xFFFF00, 0, false}, // the sum of an octad and a word of the code of the weight 16
		{0x00FFFF, 0x0000FF, 0, false}, // a sum that is an octad, with one that is none
		{0x00FF00, 0x00FFFF, 0, false},
		{0x000000, 0x0000FF, 0, false},
		{0x0000FF, 0x000000, 0, false},
		{0x00000F, 0x0000F0, 0, false},
	}
	for _, c := range cases {
		sum, ok := impl.OctadPair(c.a, c.b)
		if ok != c.ok || sum != c.sum {
			t.Errorf("the pair %#x and %#x is %#x, %t", c.a, c.b, sum, ok)
		}
	}
}

func TestPairFails(t *testing.T) {
	for _, bad := range noOctads() {
		for _, pair := range [][2]int{{bad, 255}, {255, bad}, {bad, bad}, {bad, bad ^ 255}, {0x000F0F, bad}} {
			if sum, ok := impl.OctadPair(pair[0], pair[1]); ok || sum != 0 {
				t.Errorf("the pair %d and %d is %d, %t", pair[0], pair[1], sum, ok)
			}
		}
	}
}

func TestPromise36Dodecad(t *testing.T) {
	dodecads := codeOfWeight(12)
	if len(dodecads) != 2576 {
		t.Fatalf("the definition has %d words of the weight 12", len(dodecads))
	}
	for _, w := range dodecads {
		a, b, ok := impl.DodecadOf(w)
		if !ok || a >= b || a^b != w || !impl.OctadIn(a) || !impl.OctadIn(b) || bits.OnesCount(uint(a&b)) != 2 {
			t.Fatalf("%d is the sum of %d and %d, %t", w, a, b, ok)
		}
		if least := leastOfSums()[w]; a != least {
			t.Fatalf("%d is the sum of %d and %d, but the least octad is %d", w, a, b, least)
		}
	}
	bad := slices.Concat(noWords(), octadsTold(), codeOfWeight(16), someWords(), wordsOfWeight(12)[:3000],
		[]int{0, impl.WordMax, 0xFFF, 0xFFF000, dodecads[0] + 1<<24, dodecads[5] + 1<<32, -dodecads[0]})
	for _, w := range bad {
		if _, is := slices.BinarySearch(dodecads, w); is {
			continue
		}
		if a, b, ok := impl.DodecadOf(w); ok || a != 0 || b != 0 {
			t.Errorf("%d is the sum of %d and %d, %t", w, a, b, ok)
		}
	}
}

func TestOctadListsStay(t *testing.T) {
	for n := range 10 {
		whole := []int{23, 0, 1, 2, 3, 8, 5, 14, 20, 21, 22}
		kept := slices.Clone(whole)
		impl.OctadThrough(whole[:n])
		impl.OctadList(whole[:n])
		if !slices.Equal(whole, kept) {
			t.Errorf("the list of %d places became %v", n, whole)
		}
	}
}

// octadResults runs each function of the octads that returns lists, and tells these one by one.
func octadResults(t *testing.T) [][]int {
	t.Helper()
	results := [][]int{mustList(t, []int{0, 1, 2}), mustList(t, []int{0, 1, 2, 3}), mustList(t, []int{23, 22, 21, 20, 0}),
		mustMeet(t, 255), mustMeet(t, 0x11111E)}
	return slices.Concat(results, mustTriangle(t, 255), mustTriangle(t, 0xFF0000))
}

func TestOctadResultsAreNewMemory(t *testing.T) {
	checkNewMemory(t, func() [][]int { return octadResults(t) })
}

// TestTrianglesAreNewMemory spoils the rows of a triangle with all their room: the next triangle stays.
func TestTrianglesAreNewMemory(t *testing.T) {
	rows, other := mustTriangle(t, 255), mustTriangle(t, 255)
	rows = rows[:cap(rows)]
	for i := range rows {
		rows[i] = nil
	}
	for _, again := range [][][]int{other, mustTriangle(t, 255)} {
		if !slices.EqualFunc(again, triangleTold(255), slices.Equal) {
			t.Errorf("the triangle became %v", again)
		}
	}
}
