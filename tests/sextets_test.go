package tests

import (
	"math"
	"math/bits"
	"slices"
	"sync"
	"testing"

	"loop.example/golayoctads/impl"
)

// columnSextet has the six columns.
func columnSextet() []int {
	return []int{0x00000F, 0x0000F0, 0x000F00, 0x00F000, 0x0F0000, 0xF00000}
}

// octadTold reports whether a number is an octad by the definition.
func octadTold(w int) bool {
	_, is := slices.BinarySearch(octadsTold(), w)
	return is
}

// tetradsTold has all tetrads, in ascending order.
var tetradsTold = sync.OnceValue(func() []int { return wordsOfWeight(4) })

// sextetTold goes through all tetrads for the others of the sextet of one.
func sextetTold(w int) []int {
	s := []int{}
	for _, v := range tetradsTold() {
		if v == w || v&w == 0 && octadTold(v^w) {
			s = append(s, v)
		}
	}
	return s
}

// sextetsTold has all sextets, by their first tetrads, and sextetsByTetrad the one of each tetrad.
var sextetsTold = sync.OnceValue(func() [][]int {
	seen, sextets := map[int]bool{}, [][]int{}
	for _, w := range tetradsTold() {
		if seen[w] {
			continue
		}
		s := sextetTold(w)
		sextets = append(sextets, s)
		for _, v := range s {
			seen[v] = true
		}
	}
	return sextets
})

var sextetsByTetrad = sync.OnceValue(func() map[int][]int {
	sextets := map[int][]int{}
	for _, s := range sextetsTold() {
		for _, w := range s {
			sextets[w] = s
		}
	}
	return sextets
})

// isSextetTold checks the definition of a sextet, pair by pair.
func isSextetTold(s []int) bool {
	if len(s) != 6 {
		return false
	}
	for i, a := range s {
		if bits.OnesCount(uint(a)) != 4 || i > 0 && s[i-1] >= a {
			return false
		}
		for _, b := range s[i+1:] {
			if a&b != 0 || !octadTold(a^b) {
				return false
			}
		}
	}
	return true
}

// noTetrads has numbers that are no words, tetrads with a high bit besides, and words of other weights.
func noTetrads() []int {
	list := append(noWords(), 0, impl.WordMax, impl.WordMax-15, 15|1<<24, 15|1<<32, 15|math.MinInt, -15, 7|1<<24, 7|1<<62,
		7, 31, 255, 0x111111, 0x800001, 0xF0000F, 0xE00000, 0xF00001, 0x700007)
	for n := range 25 {
		if n != 4 {
			list = append(list, 1<<n-1, impl.WordMax^(1<<(24-n)-1))
		}
	}
	return list
}

// noSextets has lists of other lengths, with what are no tetrads, in other orders, and of tetrads that are apart or not but no sextet.
func noSextets() [][]int {
	lists := [][]int{nil, {}, {15}, {0, 1, 2, 3, 4, 5}, {0, 0, 0, 0, 0, 0}, slices.Repeat([]int{impl.WordMax}, 6), octadsTold()[:6],
		{0x01000F, 0x0000F0, 0x000F00, 0x00F000, 0x0E0000, 0xF00000}, {7, 0xF8, 0xF00, 0xF000, 0xF0000, 0xF00000},
		{0x000017, 0x0000E8, 0x000F00, 0x00F000, 0x0F0000, 0xF00000}, {0x000033, 0x0000CC, 0x000F00, 0x00F000, 0x0F0000, 0xF00000},
		{0x00000F, 0x0000F0, 0x000F00, 0x00F000, 0x710000, 0x8E0000}, {0x001111, 0x002222, 0x004444, 0x008888, 0x330000, 0xCC0000}}
	for i, s := range [][]int{columnSextet(), sextetsTold()[1], sextetsTold()[1000], sextetsTold()[1770]} {
		for n := range 6 {
			lists = append(lists, s[:n], s[n+1:])
		}
		lists = append(lists, append(slices.Clone(s), s[5]), append(slices.Clone(s), 0), append([]int{0}, s...), slices.Repeat(s, 2))
		lists = append(lists, ordersOf(s)[1:]...)
		for k, w := range s {
			lists = append(lists, slices.Repeat([]int{w}, 6))
			if k > 0 {
				swapped := slices.Clone(s)
				swapped[k-1], swapped[k] = swapped[k], swapped[k-1]
				lists = append(lists, swapped)
			}
			for _, other := range append(noTetrads(), s[(k+1)%6], s[(k+5)%6], sextetsTold()[i*300+50][k], w|1<<24, w|1<<32, -w, w^1^0x800000) {
				list := slices.Clone(s)
				list[k] = other
				lists = append(lists, list)
			}
		}
	}
	return lists
}

func sextetArgument(i int) []int {
	return slices.Clone(sextetsTold()[i%len(sextetsTold())])
}

func mustSextet(t *testing.T, w int) []int {
	t.Helper()
	s, ok := impl.SextetOf(w)
	if !ok {
		t.Fatalf("of %#x there is no sextet", w)
	}
	return s
}

func mustTable(t *testing.T, a, b []int) []int {
	t.Helper()
	table, ok := impl.SextetTable(a, b)
	if !ok || len(table) != 36 {
		t.Fatalf("the table of %#x and %#x is %v, %t", a, b, table, ok)
	}
	return table
}

func mustKind(t *testing.T, a, b []int) int {
	t.Helper()
	n, ok := impl.SextetKind(a, b)
	if !ok {
		t.Fatalf("the table of %#x and %#x has no kind", a, b)
	}
	return n
}

func mustOctads(t *testing.T, s []int) []int {
	t.Helper()
	octads, ok := impl.SextetOctads(s)
	if !ok {
		t.Fatalf("the octads of %#x are not told", s)
	}
	return octads
}

func TestSextetsOfTheDefinition(t *testing.T) {
	if len(sextetsTold()) != 1771 || len(sextetsByTetrad()) != 10626 {
		t.Fatalf("the definition has %d sextets of %d tetrads", len(sextetsTold()), len(sextetsByTetrad()))
	}
	for _, s := range sextetsTold() {
		if !isSextetTold(s) {
			t.Fatalf("the definition has the sextet %#x", s)
		}
	}
}

func TestPromise37Of(t *testing.T) {
	for i, w := range tetradsTold() {
		s := mustSextet(t, w)
		if !isSextetTold(s) || !slices.Contains(s, w) || !slices.Equal(s, sextetsByTetrad()[w]) {
			t.Fatalf("the sextet of %#x is %#x, not %#x", w, s, sextetsByTetrad()[w])
		}
		if i%3 == 0 {
			if last := mustSextet(t, s[5]); !slices.Equal(last, s) {
				t.Fatalf("the sextet of %#x is %#x, and of its last tetrad %#x", w, s, last)
			}
		}
	}
	for _, w := range append(noTetrads(), octadsTold()...) {
		if s, ok := impl.SextetOf(w); ok || len(s) != 0 {
			t.Errorf("the sextet of %d is %v, %t", w, s, ok)
		}
	}
}

func TestSextetsToldOutright(t *testing.T) {
	sextets := [][]int{
		columnSextet(),
		{0x000017, 0x0000E8, 0x184200, 0x248100, 0x421800, 0x812400},
		{0x000033, 0x0000CC, 0x003300, 0x00CC00, 0x330000, 0xCC0000},
		{0x000113, 0x003220, 0x090840, 0x248004, 0x500480, 0x824008},
	}
	for _, s := range sextets {
		for _, w := range s {
			if made := mustSextet(t, w); !slices.Equal(made, s) {
				t.Errorf("the sextet of %#x is %#x, not %#x", w, made, s)
			}
		}
	}
}

func TestPromise38Valid(t *testing.T) {
	for i, s := range sextetsTold() {
		if !impl.SextetValid(slices.Clone(s)) {
			t.Fatalf("%#x is no sextet", s)
		}
		if i%4 != 0 {
			continue
		}
		for _, w := range s {
			if made := mustSextet(t, w); !slices.Equal(made, s) {
				t.Fatalf("the sextet of %#x is %#x, not %#x", w, made, s)
			}
		}
	}
	for _, list := range noSextets() {
		if isSextetTold(list) {
			t.Fatalf("%#x is a sextet by the definition", list)
		}
		if impl.SextetValid(list) {
			t.Errorf("%#x is a sextet", list)
		}
	}
}

// TestValidInAscendingOrderOnly has all orders of a sextet: one of them is it.
func TestValidInAscendingOrderOnly(t *testing.T) {
	list, valid := sextetArgument(5), 0
	var through func(int)
	through = func(n int) {
		if n == 6 {
			if impl.SextetValid(list) != slices.IsSorted(list) {
				t.Fatalf("that %#x is a sextet is %t", list, impl.SextetValid(list))
			}
			valid++
			return
		}
		for k := n; k < 6; k++ {
			list[n], list[k] = list[k], list[n]
			through(n + 1)
			list[n], list[k] = list[k], list[n]
		}
	}
	through(0)
	if valid != 720 {
		t.Errorf("there are %d orders", valid)
	}
}

func tableTold(a, b []int) []int {
	table := []int{}
	for _, v := range a {
		for _, w := range b {
			table = append(table, bits.OnesCount(uint(v&w)))
		}
	}
	return table
}

func kindTold(a, b []int) int {
	table := tableTold(a, b)
	greatest, rows := slices.Max(table), 0
	for i := 0; i < 36; i += 6 {
		if slices.Contains(table[i:i+6], greatest) {
			rows++
		}
	}
	return greatest*10 + rows
}

// pairsOfSextets has each sextet with itself, with the columns, and with another one.
func pairsOfSextets() [][2][]int {
	pairs := [][2][]int{}
	for i := range sextetsTold() {
		other := sextetArgument(i*i + 7*i + 500)
		pairs = append(pairs, [2][]int{sextetArgument(i), sextetArgument(i)}, [2][]int{columnSextet(), sextetArgument(i)},
			[2][]int{sextetArgument(i), other})
	}
	return pairs
}

func TestPromise39Table(t *testing.T) {
	for _, pair := range pairsOfSextets() {
		a, b := pair[0], pair[1]
		table, turned := mustTable(t, a, b), mustTable(t, b, a)
		if want := tableTold(a, b); !slices.Equal(table, want) {
			t.Fatalf("the table of %#x and %#x is %v, not %v", a, b, table, want)
		}
		for i := range 6 {
			row, column := 0, 0
			for k := range 6 {
				row += table[6*i+k]
				column += table[6*k+i]
				if table[6*i+k] != turned[6*k+i] {
					t.Fatalf("the table of %#x and %#x is %v, and of both exchanged %v", a, b, table, turned)
				}
			}
			if row != 4 || column != 4 {
				t.Fatalf("the table of %#x and %#x is %v", a, b, table)
			}
		}
	}
}

func TestPromise40Kind(t *testing.T) {
	kinds := map[int]int{}
	for _, pair := range pairsOfSextets() {
		a, b := pair[0], pair[1]
		kind := mustKind(t, a, b)
		if (kind == 46) != slices.Equal(a, b) || kind != kindTold(a, b) || kind != mustKind(t, b, a) {
			t.Fatalf("the kind of %#x and %#x is %d, and of both exchanged %d", a, b, kind, mustKind(t, b, a))
		}
		kinds[kind]++
	}
	if len(kinds) != 4 || kinds[46] == 0 || kinds[32] == 0 || kinds[26] == 0 || kinds[24] == 0 {
		t.Errorf("there are pairs of the kinds %v", kinds)
	}
}

// TestKindsWithOneSextet has all sextets with one: they fall in four kinds, in known numbers.
func TestKindsWithOneSextet(t *testing.T) {
	for _, i := range []int{0, 1000} {
		kinds := map[int]int{}
		for k := range sextetsTold() {
			kinds[mustKind(t, sextetArgument(k), sextetArgument(i))]++
		}
		if len(kinds) != 4 || kinds[46] != 1 || kinds[26] != 90 || kinds[32] != 240 || kinds[24] != 1440 {
			t.Errorf("with the sextet %d are the kinds %v", i, kinds)
		}
	}
}

func TestTablesToldOutright(t *testing.T) {
	cases := []struct {
		tetrad int
		table  []int
		kind   int
	}{
		{0x00F000, []int{4, 0, 0, 0, 0, 0, 0, 4, 0, 0, 0, 0, 0, 0, 4, 0, 0, 0, 0, 0, 0, 4, 0, 0, 0, 0, 0, 0, 4, 0, 0, 0, 0, 0, 0, 4}, 46},
		{0x000017, []int{3, 1, 0, 0, 0, 0, 1, 3, 0, 0, 0, 0, 0, 0, 1, 1, 1, 1, 0, 0, 1, 1, 1, 1, 0, 0, 1, 1, 1, 1, 0, 0, 1, 1, 1, 1}, 32},
		{0xCC0000, []int{2, 2, 0, 0, 0, 0, 2, 2, 0, 0, 0, 0, 0, 0, 2, 2, 0, 0, 0, 0, 2, 2, 0, 0, 0, 0, 0, 0, 2, 2, 0, 0, 0, 0, 2, 2}, 26},
		{0x000113, []int{2, 0, 0, 1, 0, 1, 1, 1, 1, 0, 1, 0, 1, 1, 1, 0, 1, 0, 0, 2, 0, 1, 0, 1, 0, 0, 2, 1, 0, 1, 0, 0, 0, 1, 2, 1}, 24},
	}
	for _, c := range cases {
		other := mustSextet(t, c.tetrad)
		if table := mustTable(t, columnSextet(), other); !slices.Equal(table, c.table) {
			t.Errorf("the table of the columns and the sextet of %#x is %v", c.tetrad, table)
		}
		if kind := mustKind(t, columnSextet(), other); kind != c.kind {
			t.Errorf("the kind of the columns and the sextet of %#x is %d", c.tetrad, kind)
		}
	}
}

func TestTableAndKindFail(t *testing.T) {
	good := columnSextet()
	for _, bad := range noSextets() {
		for _, pair := range [][2][]int{{good, bad}, {bad, good}, {bad, bad}} {
			if table, ok := impl.SextetTable(pair[0], pair[1]); ok || len(table) != 0 {
				t.Fatalf("the table of %#x and %#x is %v, %t", pair[0], pair[1], table, ok)
			}
			if kind, ok := impl.SextetKind(pair[0], pair[1]); ok || kind != 0 {
				t.Fatalf("the kind of %#x and %#x is %d, %t", pair[0], pair[1], kind, ok)
			}
		}
	}
}

func TestPromise41Sum(t *testing.T) {
	meets := map[int]int{}
	for i, a := range tetradsTold() {
		for k, b := range tetradsTold() {
			if i != k && (i*7+k)%4001 != 0 {
				continue
			}
			meet := bits.OnesCount(uint(a & b))
			meets[meet]++
			s, ok := impl.SextetSum(a, b)
			if ok != (meet == 2) || !ok && len(s) != 0 {
				t.Fatalf("the sum of %#x and %#x, which meet in %d places, is %#x, %t", a, b, meet, s, ok)
			}
			if ok && (!slices.Equal(s, sextetsByTetrad()[a^b]) || meets[meet]%5 == 0 && !slices.Equal(s, mustSextet(t, mustTwo(t, impl.WordAdd, a, b)))) {
				t.Fatalf("the sum of %#x and %#x is %#x, not %#x", a, b, s, sextetsByTetrad()[a^b])
			}
		}
	}
	if len(meets) != 5 || meets[0] == 0 || meets[1] == 0 || meets[2] == 0 || meets[3] == 0 || meets[4] != 10626 {
		t.Errorf("there are pairs that meet in %v places", meets)
	}
}

func TestSumToldOutright(t *testing.T) {
	cases := []struct {
		a, b int
		ok   bool
	}{
		{0x00000F, 0x00000F, false}, // four common places
		{0x00000F, 0x000017, false}, // three
		{0x000033, 0x00003C, true},  // two, with the sum 0x00000F
		{0x800006, 0x800009, false}, // one
		{0x00000F, 0x0000F0, false}, // none, with a sum that is an octad
		{0x00000F, 0x000F10, false},
		{0x800003, 0x80000C, false},
		{0x800005, 0x80000A, false},
		{0x800025, 0x80002A, true},  // two, with the sum 0x00000F
		{0x00000F, 0x0000FC, false}, // a common tetrad, and a word of the weight 6
		{0x00000F, 0x0000FF, false}, // a sum that is a tetrad, with one that is none
		{0x0000FF, 0x0000F0, false},
		{0x000000, 0x00000F, false},
		{0x00000F, 0x000000, false},
		{0x000003, 0x00000C, false},
	}
	for _, c := range cases {
		s, ok := impl.SextetSum(c.a, c.b)
		if ok != c.ok || ok && !slices.Equal(s, columnSextet()) || !ok && len(s) != 0 {
			t.Errorf("the sum of %#x and %#x is %#x, %t", c.a, c.b, s, ok)
		}
	}
}

func TestSumFails(t *testing.T) {
	for _, bad := range noTetrads() {
		for _, pair := range [][2]int{{bad, 15}, {15, bad}, {bad, bad}, {bad, bad ^ 15}, {0x33, bad}, {bad, 0xC0000C}} {
			if s, ok := impl.SextetSum(pair[0], pair[1]); ok || len(s) != 0 {
				t.Errorf("the sum of %#x and %#x is %#x, %t", pair[0], pair[1], s, ok)
			}
		}
	}
}

// heldTold returns the octads that have each tetrad of a sextet whole or not at all, in ascending order.
func heldTold(s []int) []int {
	held := []int{}
	for _, octad := range octadsTold() {
		apart := func(w int) bool { return octad&w != 0 && octad&w != w }
		if !slices.ContainsFunc(s, apart) {
			held = append(held, octad)
		}
	}
	return held
}

func TestPromise42Octads(t *testing.T) {
	for i := range sextetsTold() {
		s := sextetArgument(i)
		octads := mustOctads(t, s)
		if want := heldTold(s); len(octads) != 15 || !slices.Equal(octads, want) {
			t.Fatalf("the octads of %#x are %#x, not %#x", s, octads, want)
		}
		for k, octad := range octads {
			if !impl.OctadIn(octad) || !impl.SextetHolds(s, octad) || k > 0 && octads[k-1] >= octad {
				t.Fatalf("among the octads of %#x is %#x at %d", s, octad, k)
			}
		}
	}
	for _, bad := range noSextets() {
		if octads, ok := impl.SextetOctads(bad); ok || len(octads) != 0 {
			t.Errorf("the octads of %#x are %#x, %t", bad, octads, ok)
		}
	}
}

func TestOctadsOfColumnsToldOutright(t *testing.T) {
	want := []int{0x0000FF, 0x000F0F, 0x000FF0, 0x00F00F, 0x00F0F0, 0x00FF00, 0x0F000F, 0x0F00F0, 0x0F0F00, 0x0FF000,
		0xF0000F, 0xF000F0, 0xF00F00, 0xF0F000, 0xFF0000}
	if octads := mustOctads(t, columnSextet()); !slices.Equal(octads, want) {
		t.Errorf("the octads of the columns are %#x", octads)
	}
}

func TestPromise43Holds(t *testing.T) {
	for _, i := range []int{0, 1, 9, 39, 700, 1770} {
		s := sextetArgument(i)
		want := heldTold(s)
		for _, w := range octadsTold() {
			holds := impl.SextetHolds(s, w)
			if holds != slices.Contains(want, w) {
				t.Fatalf("that the sextet %#x holds %#x is %t", s, w, holds)
			}
			for _, tetrad := range s {
				if holds && w&tetrad != 0 && w&tetrad != tetrad {
					t.Fatalf("the sextet %#x holds %#x", s, w)
				}
			}
		}
	}
}

func TestHoldsFails(t *testing.T) {
	for i, w := range noOctads() {
		if impl.SextetHolds(columnSextet(), w) || i%7 == 0 && impl.SextetHolds(sextetArgument(i), w) {
			t.Fatalf("a sextet holds %#x", w)
		}
	}
	for _, w := range append(columnSextet(), 0x000FFF, 0xFFFF00, 0x0F00000F, 255|1<<24, 255|1<<32, 255|math.MinInt, -255) {
		if impl.SextetHolds(columnSextet(), w) {
			t.Errorf("the columns hold %#x", w)
		}
	}
	for _, bad := range noSextets() {
		for _, w := range []int{255, 0xFF0000, 0xF0000F, -1} {
			if impl.SextetHolds(bad, w) {
				t.Errorf("%#x holds %#x", bad, w)
			}
		}
		if len(bad) >= 2 && impl.SextetHolds(bad, bad[0]^bad[1]) {
			t.Errorf("%#x holds the sum of its first two", bad)
		}
	}
}

func TestSextetArgumentsStay(t *testing.T) {
	lists := append(noSextets(), columnSextet(), sextetArgument(1), sextetArgument(1000))
	for _, list := range lists {
		whole := append(slices.Clone(list), 1, 2, 3)
		kept := slices.Clone(whole)
		part := whole[:len(list)]
		impl.SextetValid(part)
		impl.SextetTable(part, part)
		impl.SextetKind(part, part)
		impl.SextetOctads(part)
		impl.SextetHolds(part, 255)
		if !slices.Equal(whole, kept) {
			t.Errorf("the list %v became %v", kept, whole)
		}
	}
}

// sextetResults runs each function of the sextets that returns a list.
func sextetResults(t *testing.T, s []int) [][]int {
	t.Helper()
	sum, ok := impl.SextetSum(0x33, 0x3C)
	if !ok {
		t.Fatal("of two tetrads that meet in two places there is no sum")
	}
	return [][]int{mustSextet(t, 15), mustSextet(t, s[5]), sum, mustTable(t, s, s), mustTable(t, s, columnSextet()),
		mustOctads(t, s), mustOctads(t, columnSextet())}
}

func TestSextetResultsAreNewMemory(t *testing.T) {
	s := sextetArgument(39)
	checkNewMemory(t, func() [][]int { return sextetResults(t, s) }, s)
}
