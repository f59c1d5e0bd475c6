package tests

import (
	"math"
	"math/bits"
	"runtime"
	"slices"
	"sync"
	"testing"

	"loop.example/golayoctads/impl"
)

// coordTold is the greatest size of a number of a vector.
const coordTold = 100000

// restTold counts up or down to the rest, so that it is that of a negative number too.
func restTold(n, rests int) int {
	for n < 0 {
		n += rests * (1 - n/rests)
	}
	return n % rests
}

func vectorTold(v []int) bool {
	for _, n := range v {
		if n < -coordTold || n > coordTold {
			return false
		}
	}
	return len(v) == 24
}

// restWordsTold has, for each rest modulo 4, the places of the numbers with it.
func restWordsTold(v []int) [4]int {
	words := [4]int{}
	for place, n := range v {
		words[restTold(n, 4)] |= 1 << place
	}
	return words
}

// latticeTold is the definition of the lattice, for any list.
func latticeTold(v []int) bool {
	if !vectorTold(v) {
		return false
	}
	odd := 0
	for _, n := range v {
		odd += restTold(n, 2)
	}
	if odd != 0 && odd != 24 {
		return false
	}
	for _, w := range restWordsTold(v) {
		if !inCodeTold(w) {
			return false
		}
	}
	if odd == 24 {
		return restTold(sumOf(v), 8) == 4
	}
	return restTold(sumOf(v), 8) == 0
}

func innerTold(a, b []int) int {
	sum := 0
	for i := range a {
		sum += a[i] * b[i]
	}
	return sum
}

// eachOf makes a vector of what a function tells for each place.
func eachOf(of func(place int) int) []int {
	v := make([]int, 24)
	for place := range v {
		v[place] = of(place)
	}
	return v
}

func sumTold(a, b []int) []int {
	return eachOf(func(place int) int { return a[place] + b[place] })
}

func timesVector(v []int, n int) []int {
	return eachOf(func(place int) int { return n * v[place] })
}

func flippedTold(v []int, w int) []int {
	return eachOf(func(place int) int {
		if w>>place&1 == 1 {
			return -v[place]
		}
		return v[place]
	})
}

func movedVectorTold(v, p []int) []int {
	return eachOf(func(place int) int { return v[slices.Index(p, place)] })
}

// everywhere has the same number at all places.
func everywhere(n int) []int {
	return slices.Repeat([]int{n}, 24)
}

// onWord has a number at the places of a word and another one elsewhere.
func onWord(w, inside, outside int) []int {
	return eachOf(func(place int) int {
		if w>>place&1 == 1 {
			return inside
		}
		return outside
	})
}

// withNumber is a copy with another number at one place.
func withNumber(v []int, place, n int) []int {
	other := slices.Clone(v)
	other[place] = n
	return other
}

func octadVectorTold(w, signs int) []int {
	v, minus := make([]int, 24), 0
	for i, place := range placesOf(w) {
		v[place] = 2
		if i < 7 && signs>>i&1 == 1 || i == 7 && minus%2 == 1 {
			v[place] = -2
			minus++
		}
	}
	return v
}

func threeVectorTold(w, place int) []int {
	return flippedTold(withNumber(everywhere(1), place, -3), w)
}

func fourVectorTold(p, q int, first, second bool) []int {
	v := make([]int, 24)
	v[p], v[q] = 4, 4
	if first {
		v[p] = -4
	}
	if second {
		v[q] = -4
	}
	return v
}

// latticeMixed is one of many vectors of the lattice: a sum of up to five vectors with the square 32, some of them often.
func latticeMixed(n int) []int {
	state := uint32(n*oddStep + 4711)
	next := func(below int) int {
		state = state*1664525 + 1013904223
		return int(state>>8) % below
	}
	v := make([]int, 24)
	for range 1 + next(5) {
		var part []int
		switch next(3) {
		case 0:
			part = octadVectorTold(octadsTold()[next(759)], next(128))
		case 1:
			part = threeVectorTold(codeTold()[next(4096)], next(24))
		default:
			p := next(24)
			part = fourVectorTold(p, (p+1+next(23))%24, next(2) == 1, next(2) == 1)
		}
		times := []int{1, -1, 2, 3, -5, 1000, -4999}[next(7)]
		v = sumTold(v, timesVector(part, times))
	}
	return v
}

// latticeOutright has vectors of the lattice: even and odd ones, with negative numbers, with each rest, and at the bounds.
func latticeOutright() [][]int {
	return [][]int{
		everywhere(0), everywhere(2), everywhere(-2), everywhere(4), everywhere(coordTold), everywhere(-coordTold),
		withNumber(everywhere(0), 0, 8), withNumber(everywhere(0), 23, -8), withNumber(everywhere(0), 7, coordTold),
		withNumber(everywhere(0), 7, -coordTold), onWord(1|1<<23, 4, 0), onWord(6, -4, 0), onWord(255, 2, 0), onWord(255, -2, 0),
		onWord(255, 0, 2), onWord(0xFFFF, 2, 4), onWord(0xFF00FF, -2, coordTold), onWord(255, 6, -4),
		withNumber(everywhere(1), 0, -3), withNumber(everywhere(1), 23, 5), withNumber(everywhere(-1), 4, 3), withNumber(everywhere(-1), 4, -5),
		withNumber(everywhere(3), 9, -1), withNumber(everywhere(-3), 9, 1), withNumber(everywhere(coordTold-1), 9, coordTold-5),
		withNumber(everywhere(1-coordTold), 9, 5-coordTold), withNumber(onWord(255, -1, 1), 0, 3), withNumber(onWord(255, -1, 1), 23, -3),
		withNumber(onWord(255, 3, 1), 0, -1), withNumber(onWord(255, 3, 5), 0, 7),
	}
}

// latticeVectors has vectors of the lattice: those told outright, some with the square 32, and sums of such.
var latticeVectors = sync.OnceValue(func() [][]int {
	list := latticeOutright()
	for i := range 60 {
		list = append(list, octadVectorTold(octadsTold()[i*389%759], i*67%128), threeVectorTold(codeTold()[i*1097%4096], i*5%24),
			fourVectorTold(i%24, (i+1+i*7%23)%24, i&1 == 1, i&2 == 2))
	}
	for i := range 300 {
		list = append(list, latticeMixed(i))
	}
	return list
})

// nearVectors has vectors that miss the lattice: even ones whose sum has the rest 4, odd ones whose sum has the rest 0,
// such with even and odd numbers, such whose places with one rest are no word of the code, and such with one place wrong.
var nearVectors = sync.OnceValue(func() [][]int {
	list := [][]int{
		withNumber(everywhere(0), 5, 4), withNumber(everywhere(0), 5, -4), withNumber(everywhere(coordTold), 5, coordTold-4),
		withNumber(everywhere(2), 0, 6), withNumber(everywhere(2), 0, -2), withNumber(onWord(255, 2, 0), 3, -2), withNumber(onWord(255, 2, 0), 9, 4),
		everywhere(1), everywhere(-1), everywhere(3), everywhere(-3), everywhere(5), everywhere(coordTold - 1), everywhere(1 - coordTold),
		onWord(255, -1, 1), onWord(255, 3, 1), onWord(255, 1, 0), onWord(255, -1, 0), onWord(255, 3, 0), withNumber(onWord(255, 1, 0), 0, 5),
		withNumber(onWord(255, 1, 0), 23, 4), onWord(255, 2, 1), onWord(255, 1, 2), onWord(255, 4, 1), withNumber(onWord(255, 0, 1), 23, 5),
		onWord(15, 2, 0), withNumber(onWord(255, 2, 4), 23, 0), onWord(0xF0F0F, 2, 0), onWord(1, 2, 0), onWord(0xAAAAAA, -1, 1), onWord(0xAAA, 3, -1),
		withNumber(withNumber(everywhere(0), 0, 2), 1, -2), withNumber(withNumber(everywhere(1), 0, 2), 1, -2), onWord(0xFFF, 1, 0),
		sumTold(onWord(255, 1, 0), onWord(0xFF00, 2, 0)), sumTold(onWord(255, 1, 0), onWord(0xFF00, 3, 0)), eachOf(func(place int) int { return place }),
	}
	for i, v := range latticeVectors() {
		for k, d := range []int{1, -1, 2, -2, 3, -3, 4, -4, 5, -6} {
			if n := v[(i+k*5)%24] + d; n >= -coordTold && n <= coordTold {
				list = append(list, withNumber(v, (i+k*5)%24, n))
			}
		}
	}
	return list
})

// someVectors has vectors in the lattice and not, with numbers that are spread over all and at the bounds.
var someVectors = sync.OnceValue(func() [][]int {
	list := [][]int{eachOf(func(place int) int { return place }), eachOf(func(place int) int { return 23 - 2*place }), onWord(0xF0F0F0, coordTold, -coordTold)}
	for i, v := range latticeVectors() {
		if i%4 == 0 || i < 30 {
			list = append(list, v)
		}
	}
	for i, v := range nearVectors() {
		if i%30 == 0 || i < 37 {
			list = append(list, v)
		}
	}
	for i := range 60 {
		bound := []int{3, 10, 1000, coordTold}[i%4]
		list = append(list, eachOf(func(place int) int { return ((i*24+place)*oddStep+place*place*977)%(2*bound+1) - bound }))
	}
	return list
})

// noNumbers has numbers just above CoordMax and below -CoordMax, such as are one in fewer bits, and the ends of the type.
func noNumbers() []int {
	return []int{coordTold + 1, -coordTold - 1, coordTold + 8, -coordTold - 8, 2 * coordTold, -2 * coordTold, 1 << 31, -1 << 31, 1 << 32, 1<<32 + 4,
		-1 << 32, 4 - 1<<32, 1 << 62, -1 << 62, math.MinInt, math.MinInt + 1, math.MinInt + 8, math.MaxInt - 7, math.MaxInt}
}

// noVectors has lists with fewer or more than 24 numbers, and with a number that is above CoordMax or below -CoordMax.
func noVectors() [][]int {
	lists := [][]int{nil, {}, make([]int, 0, 24), everywhere(coordTold + 1), everywhere(-coordTold - 1), everywhere(math.MinInt), everywhere(math.MaxInt)}
	for n := range 60 {
		if n != 24 {
			lists = append(lists, make([]int, n), slices.Repeat([]int{2}, n), longPlaces(n))
		}
	}
	for _, v := range [][]int{everywhere(0), everywhere(4), withNumber(everywhere(1), 3, -3), onWord(255, 2, 0)} {
		lists = append(lists, v[:23], v[1:], append(slices.Clone(v), 0), append([]int{0}, v...), slices.Concat(v, v))
		for place := range v {
			for _, bad := range noNumbers() {
				lists = append(lists, withNumber(v, place, bad))
			}
		}
	}
	return lists
}

// mustVector takes what a function of the lattice returns.
func mustVector(t *testing.T, what string, v []int, ok bool) []int {
	t.Helper()
	if !ok || len(v) != 24 {
		t.Fatalf("%s is %v, %t", what, v, ok)
	}
	return v
}

func checkNoVector(t *testing.T, what string, v []int, ok bool) {
	t.Helper()
	if ok || len(v) != 0 {
		t.Fatalf("%s is %v, %t", what, v, ok)
	}
}

func mustSum(t *testing.T, a, b []int) []int {
	t.Helper()
	v, ok := impl.LatticeAdd(a, b)
	return mustVector(t, "a sum", v, ok)
}

func mustInner(t *testing.T, a, b []int) int {
	t.Helper()
	n, ok := impl.LatticeInner(a, b)
	if !ok {
		t.Fatalf("there is no inner product of %v and %v", a, b)
	}
	return n
}

func mustFlip(t *testing.T, v []int, w int) []int {
	t.Helper()
	flipped, ok := impl.LatticeFlip(v, w)
	return mustVector(t, "a flipped vector", flipped, ok)
}

func mustVectorMoved(t *testing.T, v, p []int) []int {
	t.Helper()
	moved, ok := impl.LatticeMove(v, p)
	return mustVector(t, "a moved vector", moved, ok)
}

func mustOctadVector(t *testing.T, w, signs int) []int {
	t.Helper()
	v, ok := impl.LatticeOctad(w, signs)
	return mustVector(t, "the vector of an octad", v, ok)
}

func mustThree(t *testing.T, w, place int) []int {
	t.Helper()
	v, ok := impl.LatticeThree(w, place)
	return mustVector(t, "the vector of a word of the code", v, ok)
}

func mustFour(t *testing.T, p, q int, first, second bool) []int {
	t.Helper()
	v, ok := impl.LatticeFour(p, q, first, second)
	return mustVector(t, "the vector of two places", v, ok)
}

func mustShape(t *testing.T, v []int) []int {
	t.Helper()
	sizes, ok := impl.LatticeShape(v)
	return mustVector(t, "a shape", sizes, ok)
}

func checkVector(t *testing.T, what string, v, want []int) {
	t.Helper()
	if !slices.Equal(v, want) {
		t.Fatalf("%s is %v, not %v", what, v, want)
	}
}

func checkLattice(t *testing.T, v []int, want bool) {
	t.Helper()
	if in := impl.LatticeIn(v); in != want {
		t.Fatalf("that %v is in the lattice is %t", v, in)
	}
}

// checkLeast has a vector that is in the lattice with the square 32.
func checkLeast(t *testing.T, v []int) {
	t.Helper()
	checkLattice(t, v, true)
	if !latticeTold(v) || mustInner(t, v, v) != 32 {
		t.Fatalf("the square of %v is %d", v, mustInner(t, v, v))
	}
}

// TestVectorsToldAreOfAllKinds guards the tests below.
func TestVectorsToldAreOfAllKinds(t *testing.T) {
	for i, v := range latticeVectors() {
		if !latticeTold(v) {
			t.Fatalf("the vector %d, %v, is not in the lattice", i, v)
		}
	}
	for i, v := range nearVectors() {
		if latticeTold(v) || !vectorTold(v) {
			t.Fatalf("the vector %d, %v, is in the lattice or none", i, v)
		}
	}
	for _, list := range [][][]int{latticeVectors(), nearVectors()} {
		odd, negative := 0, map[int]int{}
		for _, v := range list {
			odd += restTold(v[0], 2)
			for _, n := range v {
				if n < 0 {
					negative[restTold(n, 4)]++
				}
			}
		}
		if odd < 80 || len(list)-odd < 80 || len(negative) != 4 || negative[0] < 80 || negative[2] < 80 {
			t.Errorf("%d of %d vectors are odd, and the negative numbers have the rests %v", odd, len(list), negative)
		}
	}
	sums, kept := map[[2]int]int{}, map[bool]int{}
	for _, v := range someVectors() {
		if !vectorTold(v) {
			t.Fatalf("%v is no vector", v)
		}
		sums[[2]int{restTold(v[0], 2), restTold(sumOf(v), 8)}]++
		kept[latticeTold(v)]++
	}
	if sums[[2]int{0, 0}] < 20 || sums[[2]int{0, 4}] < 5 || sums[[2]int{1, 0}] < 5 || sums[[2]int{1, 4}] < 20 || kept[true] < 50 || kept[false] < 100 {
		t.Errorf("the sums have the rests %v, and that a vector is in the lattice is %v", sums, kept)
	}
	for _, v := range noVectors() {
		if vectorTold(v) {
			t.Errorf("%v is a vector", v)
		}
	}
}

func TestLatticeConstants(t *testing.T) {
	if impl.CoordMax != coordTold {
		t.Errorf("CoordMax is %d", impl.CoordMax)
	}
}

func TestPromise69Valid(t *testing.T) {
	lists := slices.Concat(someVectors(), latticeVectors())
	for place := range 24 {
		for _, n := range []int{1, -1, 2, -3, 4, coordTold - 1, coordTold, 1 - coordTold, -coordTold} {
			lists = append(lists, withNumber(everywhere(0), place, n), withNumber(everywhere(-n), place, n))
		}
	}
	for _, v := range lists {
		if !impl.VectorValid(v) {
			t.Fatalf("%v is no vector", v)
		}
		square := mustInner(t, v, v)
		if zero := slices.Equal(v, everywhere(0)); square < 0 || zero != (square == 0) || square != innerTold(v, v) {
			t.Fatalf("the square of %v is %d", v, square)
		}
	}
	if square := mustInner(t, everywhere(0), make([]int, 24)); square != 0 {
		t.Errorf("the square of 24 times 0 is %d", square)
	}
	for _, v := range noVectors() {
		if impl.VectorValid(v) {
			t.Fatalf("%v is a vector", v)
		}
	}
}

func TestPromise70In(t *testing.T) {
	for _, v := range slices.Concat(latticeVectors(), nearVectors(), someVectors()) {
		checkLattice(t, v, latticeTold(v))
		opposite := mustFlip(t, v, impl.WordMax)
		checkLattice(t, opposite, latticeTold(v))
		if square := mustInner(t, v, v); impl.LatticeIn(v) && (square%16 != 0 || square < 0 || 0 < square && square < 32) {
			t.Fatalf("the square of %v is %d", v, square)
		}
	}
	for _, v := range noVectors() {
		checkLattice(t, v, false)
	}
}

func TestLatticeOutright(t *testing.T) {
	for _, v := range latticeOutright() {
		checkLattice(t, v, true)
	}
	for _, v := range nearVectors() {
		checkLattice(t, v, false)
	}
}

// TestOddVectors has odd vectors with numbers of all kinds of which the rests are as they are to be: the sum decides.
func TestOddVectors(t *testing.T) {
	count := map[int]int{}
	for m, w := range codeTold() {
		v := onWord(w, -1, 1)
		for i, n := range []int{4, -4, 8, -8, 4000, -3996} {
			v[(m*7+i*5)%24] += n * (m >> i & 1)
			rest := restTold(sumOf(v), 8)
			checkLattice(t, v, rest == 4)
			checkLattice(t, timesVector(v, -1), rest == 4)
			checkLattice(t, withNumber(v, m%24, v[m%24]+4), rest == 0)
			checkLattice(t, withNumber(v, m%24, v[m%24]-4), rest == 0)
			checkLattice(t, withNumber(v, m%24, v[m%24]+8), rest == 4)
			checkLattice(t, withNumber(v, m%24, -v[m%24]), false)
			checkLattice(t, withNumber(v, m%24, v[m%24]+1), false)
			checkLattice(t, withNumber(v, m%24, v[m%24]-2), false)
			count[rest]++
		}
	}
	if len(count) != 2 || count[0] < 5000 || count[4] < 5000 {
		t.Errorf("the sums of the odd vectors have the rests %v", count)
	}
	for _, w := range append(someWords(), wrongWords()[:2000]...) {
		for _, n := range []int{1, -3, 5} {
			v := withNumber(onWord(w, -1, 1), 3, n)
			checkLattice(t, v, latticeTold(v))
		}
	}
}

// TestMixedVectors has vectors with even and odd numbers: for these no sum will do, even if all four words are of the code.
func TestMixedVectors(t *testing.T) {
	for i, w := range codeTold() {
		if w == 0 || w == impl.WordMax {
			continue
		}
		for _, part := range [][2]int{{1, 0}, {1, 2}, {3, 0}, {-1, -2}, {0, 1}, {-3, 4}} {
			v := onWord(w, part[0], part[1])
			for range 2 {
				checkLattice(t, v, false)
				v = withNumber(v, i%24, v[i%24]+4)
			}
		}
	}
	// Three octads that have all places: each number has another rest.
	for _, numbers := range [][3]int{{0, 1, 2}, {1, 2, 3}, {-1, 0, 5}, {2, 1, -5}} {
		v := sumTold(onWord(0xFF, numbers[0], 0), sumTold(onWord(0xFF00, numbers[1], 0), onWord(0xFF0000, numbers[2], 0)))
		checkLattice(t, v, false)
		checkLattice(t, withNumber(v, 11, v[11]+4), false)
	}
}

// TestEvenVectors has even vectors of which the places with the rest 2 are those of any word.
func TestEvenVectors(t *testing.T) {
	words := slices.Concat(codeTold(), someWords(), wrongWords()[:2000])
	for i, w := range words {
		v, in := onWord(w, -2, 4*(i%3)), inCode()[w]
		rest := restTold(sumOf(v), 8)
		checkLattice(t, v, in && rest == 0)
		checkLattice(t, withNumber(v, i%24, v[i%24]-4), in && rest == 4)
		checkLattice(t, withNumber(v, i%24, v[i%24]+coordTold-8), in && rest == 0)
		checkLattice(t, withNumber(v, i%24, v[i%24]+2), latticeTold(withNumber(v, i%24, v[i%24]+2)))
	}
}

func checkSum(t *testing.T, a, b []int) {
	t.Helper()
	if !vectorTold(sumTold(a, b)) {
		sum, ok := impl.LatticeAdd(a, b)
		checkNoVector(t, "a sum out of the bounds", sum, ok)
		return
	}
	sum := mustSum(t, a, b)
	checkVector(t, "the sum", sum, sumTold(a, b))
	checkVector(t, "the sum exchanged", mustSum(t, b, a), sum)
	checkLattice(t, sum, true)
	if square := mustInner(t, sum, sum); square != mustInner(t, a, a)+mustInner(t, b, b)+2*mustInner(t, a, b) {
		t.Fatalf("the square of the sum of %v and %v is %d", a, b, square)
	}
}

func TestPromise71Add(t *testing.T) {
	list := latticeVectors()
	for i, a := range list {
		for _, step := range []int{0, 1, 17, 101, 256} {
			checkSum(t, a, list[(i+step)%len(list)])
		}
		checkSum(t, a, everywhere(0))
		checkSum(t, a, timesVector(a, -1))
		for _, b := range latticeOutright() {
			checkSum(t, a, b)
		}
	}
	checkVector(t, "the sum of two odd vectors", mustSum(t, withNumber(everywhere(1), 0, -3), withNumber(everywhere(1), 1, 5)),
		withNumber(withNumber(everywhere(2), 0, -2), 1, 6))
	checkVector(t, "the sum of an odd and an even vector", mustSum(t, withNumber(everywhere(1), 0, -3), onWord(255, 2, 0)),
		withNumber(onWord(255, 3, 1), 0, -1))
}

// TestSumsAtTheBounds has sums that leave the bounds by one or just don't, at each place.
func TestSumsAtTheBounds(t *testing.T) {
	fails := func(a, b []int) {
		t.Helper()
		sum, ok := impl.LatticeAdd(a, b)
		checkNoVector(t, "a sum out of the bounds", sum, ok)
		sum, ok = impl.LatticeAdd(b, a)
		checkNoVector(t, "a sum out of the bounds", sum, ok)
	}
	for place := range 24 {
		other := (place + 5) % 24
		most, one := withNumber(everywhere(0), place, coordTold), threeVectorTold(0, other)
		least, minusOne := timesVector(most, -1), timesVector(one, -1)
		fails(most, one)
		fails(least, minusOne)
		checkVector(t, "the sum one below CoordMax", mustSum(t, most, minusOne), withNumber(minusOne, place, coordTold-1))
		checkVector(t, "the sum one above -CoordMax", mustSum(t, least, one), withNumber(one, place, 1-coordTold))
		checkVector(t, "the sum of both bounds", mustSum(t, most, least), everywhere(0))
		fails(most, fourVectorTold(place, other, false, true))
		fails(least, fourVectorTold(place, other, true, false))
		fails(most, most)
		fails(least, least)
		below := sumTold(most, fourVectorTold(place, other, true, false))
		checkVector(t, "the sum CoordMax", mustSum(t, below, fourVectorTold(place, other, false, false)), withNumber(withNumber(everywhere(0), place, coordTold), other, 8))
		checkVector(t, "the sum -CoordMax", mustSum(t, timesVector(below, -1), fourVectorTold(place, other, true, false)), least)
		// A number one below the bounds, and a sum one above them.
		high := sumTold(most, minusOne)
		fails(high, octadVectorTold(octadsOf(1<<place, 0)[0], 0))
		checkSum(t, high, one)
	}
	fails(everywhere(coordTold), everywhere(coordTold))
	fails(everywhere(-coordTold), everywhere(-coordTold))
	checkVector(t, "the sum with nothing", mustSum(t, everywhere(coordTold), everywhere(0)), everywhere(coordTold))
}

func TestAddFails(t *testing.T) {
	fails := func(a, b []int) {
		t.Helper()
		sum, ok := impl.LatticeAdd(a, b)
		checkNoVector(t, "a sum", sum, ok)
	}
	for i, bad := range slices.Concat(noVectors(), nearVectors()) {
		for _, v := range [][]int{everywhere(0), onWord(255, 2, 0), withNumber(everywhere(1), 3, -3), latticeVectors()[i%len(latticeVectors())]} {
			fails(bad, v)
			fails(v, bad)
		}
		fails(bad, bad)
	}
	// The sum is in the lattice, but neither of both is.
	for _, v := range nearVectors() {
		fails(v, timesVector(v, -1))
	}
	fails(onWord(1, 4, 0), onWord(1, 4, 0))
	fails(onWord(1, 4, 0), onWord(2, 4, 0))
	fails(everywhere(1), everywhere(-1))
	fails(everywhere(1), everywhere(1))
}

func TestPromise72Inner(t *testing.T) {
	list, short := someVectors(), 0
	for _, a := range list {
		for _, b := range list {
			n := mustInner(t, a, b)
			if n != innerTold(a, b) || mustInner(t, b, a) != n {
				t.Fatalf("the inner product of %v and %v is %d, and exchanged %d", a, b, n, mustInner(t, b, a))
			}
			first, second := mustInner(t, a, a), mustInner(t, b, b)
			if first <= 24000000 && second <= 24000000 {
				short++
				if n*n > first*second {
					t.Fatalf("the inner product of %v and %v is %d, and the squares are %d and %d", a, b, n, first, second)
				}
			}
			if impl.LatticeIn(a) && impl.LatticeIn(b) && n%8 != 0 {
				t.Fatalf("the inner product of %v and %v is %d", a, b, n)
			}
		}
	}
	if short < 1000 {
		t.Errorf("only %d pairs have short vectors", short)
	}
	for i, a := range latticeVectors() {
		for _, b := range latticeVectors()[i:] {
			if n := mustInner(t, a, b); n%8 != 0 {
				t.Fatalf("the inner product of %v and %v is %d", a, b, n)
			}
		}
	}
}

func TestInnerOutright(t *testing.T) {
	cases := []struct {
		a, b []int
		n    int
	}{
		{everywhere(coordTold), everywhere(coordTold), 240000000000},
		{everywhere(coordTold), everywhere(-coordTold), -240000000000},
		{everywhere(coordTold), onWord(0xFFF, 1, -1), 0},
		{everywhere(0), everywhere(coordTold), 0},
		{everywhere(1), eachOf(func(place int) int { return place }), 276},
		{onWord(255, 2, 0), onWord(0xFF00, 2, 0), 0},
		{onWord(255, 2, 0), threeVectorTold(0, 0), 8},
		{onWord(1, -7, 0), onWord(1, 9, 5), -63},
		{onWord(1<<23, -7, 0), onWord(1<<23, -9, 5), 63},
	}
	for _, c := range cases {
		if n := mustInner(t, c.a, c.b); n != c.n {
			t.Errorf("the inner product of %v and %v is %d, not %d", c.a, c.b, n, c.n)
		}
	}
}

func TestInnerFails(t *testing.T) {
	bad := noVectors()
	for i, v := range bad {
		for _, pair := range [][2][]int{{v, everywhere(0)}, {everywhere(0), v}, {v, everywhere(3)}, {everywhere(-3), v}, {v, v}, {v, bad[i/2]}} {
			if n, ok := impl.LatticeInner(pair[0], pair[1]); ok || n != 0 {
				t.Fatalf("the inner product of %v and %v is %d, %t", pair[0], pair[1], n, ok)
			}
		}
	}
}

func TestPromise73Flip(t *testing.T) {
	stays := map[bool]int{}
	for i, v := range someVectors() {
		words := append(someWords(), codeTold()[i%4096], codeTold()[(i*1097+64)%4096], codeTold()[i*389%4096], octadsTold()[i*7%759])
		for _, w := range words {
			flipped := mustFlip(t, v, w)
			checkVector(t, "the flipped vector", flipped, flippedTold(v, w))
			checkVector(t, "the vector flipped twice", mustFlip(t, flipped, w), v)
			if square := mustInner(t, flipped, flipped); square != mustInner(t, v, v) {
				t.Fatalf("the square of %v is %d, and flipped %d", v, mustInner(t, v, v), square)
			}
			checkLattice(t, flipped, latticeTold(flipped))
			if impl.CodeIn(w) {
				checkLattice(t, flipped, impl.LatticeIn(v))
				stays[impl.LatticeIn(v)]++
			}
		}
		checkVector(t, "the vector flipped at no place", mustFlip(t, v, 0), v)
		checkVector(t, "the vector flipped at all places", mustFlip(t, v, impl.WordMax), timesVector(v, -1))
	}
	if stays[true] < 200 || stays[false] < 200 {
		t.Errorf("that a vector and the one flipped on a word of the code are in the lattice is %v", stays)
	}
	checkVector(t, "the vector flipped at the place 0", mustFlip(t, everywhere(coordTold), 1), withNumber(everywhere(coordTold), 0, -coordTold))
	checkVector(t, "the vector flipped at the place 23", mustFlip(t, everywhere(-coordTold), 1<<23), withNumber(everywhere(-coordTold), 23, coordTold))
}

func TestFlipFails(t *testing.T) {
	check := func(v []int, w int) {
		t.Helper()
		flipped, ok := impl.LatticeFlip(v, w)
		checkNoVector(t, "a flipped vector", flipped, ok)
	}
	for i, v := range noVectors() {
		for _, w := range []int{0, 1, 255, impl.WordMax, noWords()[i%len(noWords())]} {
			check(v, w)
		}
	}
	for _, v := range someVectors() {
		for _, w := range noWords() {
			check(v, w)
		}
	}
}

func TestPromise74Move(t *testing.T) {
	perms := slices.Concat(somePerms(), keepers())
	kept := map[[2]bool]int{}
	for i, v := range someVectors() {
		for k := i % 5; k < len(perms); k += 5 {
			p := perms[k]
			moved := mustVectorMoved(t, v, p)
			checkVector(t, "the moved vector", moved, movedVectorTold(v, p))
			checkVector(t, "the vector moved back", mustVectorMoved(t, moved, mustTurned(t, p)), v)
			checkVector(t, "the shape of the moved vector", mustShape(t, moved), mustShape(t, v))
			checkLattice(t, moved, latticeTold(moved))
			if impl.PermKeeps(p) {
				checkLattice(t, moved, impl.LatticeIn(v))
			}
			kept[[2]bool{impl.PermKeeps(p), impl.LatticeIn(v) == impl.LatticeIn(moved)}]++
		}
		checkVector(t, "the vector moved by what moves nothing", mustVectorMoved(t, v, unmoved()), v)
	}
	if kept[[2]bool{true, true}] < 5000 || kept[[2]bool{false, false}] < 500 || kept[[2]bool{true, false}] > 0 {
		t.Errorf("that the code is kept, and that the lattice is, is %v", kept)
	}
}

func TestVectorsMovedOutright(t *testing.T) {
	places := eachOf(func(place int) int { return place })
	checkVector(t, "the vector moved by the cycle", mustVectorMoved(t, places, around()), append([]int{23}, unmoved()[:23]...))
	checkVector(t, "the vector moved by the cycle backwards", mustVectorMoved(t, places, turnedTold(around())), around())
	checkVector(t, "the vector moved by an exchange", mustVectorMoved(t, places, exchanged(unmoved(), 0, 23)), exchanged(places, 0, 23))
	checkVector(t, "the vector moved by a cycle of 0, 7 and 14", mustVectorMoved(t, onWord(1, coordTold, 0), withCycles(3)), onWord(1<<7, coordTold, 0))
	octad := onWord(255, 2, 0)
	checkVector(t, "the vector of an octad moved", mustVectorMoved(t, octad, exchanged(unmoved(), 7, 8)), onWord(0x17F, 2, 0))
	checkLattice(t, mustVectorMoved(t, octad, exchanged(unmoved(), 7, 8)), false)
	for _, p := range somePerms() {
		checkVector(t, "a vector moved with its word", mustVectorMoved(t, onWord(fixedWord, 1, -5), p), onWord(mustMoved(t, p, fixedWord), 1, -5))
		checkVector(t, "the places moved", mustVectorMoved(t, p, p), places)
	}
}

// TestMovesBesideEachOther moves many vectors at the same time, and none leaves anything running.
func TestMovesBesideEachOther(t *testing.T) {
	before := runtime.NumGoroutine()
	var movers sync.WaitGroup
	wrong := make([]int, 8)
	for i := range wrong {
		movers.Go(func() {
			for n := range 500 {
				v, p := latticeVectors()[(n*31+i)%len(latticeVectors())], somePerms()[(n+i*7)%len(somePerms())]
				if moved, ok := impl.LatticeMove(v, p); !ok || !slices.Equal(moved, movedVectorTold(v, p)) {
					wrong[i]++
				}
			}
		})
	}
	movers.Wait()
	if !slices.Equal(wrong, make([]int, 8)) {
		t.Errorf("beside each other, so many vectors are moved wrong: %v", wrong)
	}
	for n := 0; runtime.NumGoroutine() > before && n < 1000000; n++ {
		runtime.Gosched()
	}
	if after := runtime.NumGoroutine(); after > before {
		t.Errorf("%d goroutines run ahead of the moves, and %d behind them", before, after)
	}
}

func TestMoveVectorFails(t *testing.T) {
	check := func(v, p []int) {
		t.Helper()
		moved, ok := impl.LatticeMove(v, p)
		checkNoVector(t, "a moved vector", moved, ok)
	}
	vectors, perms := noVectors(), noPerms()
	for i, v := range vectors {
		for _, p := range [][]int{unmoved(), around(), somePerms()[i%len(somePerms())], perms[i%len(perms)]} {
			check(v, p)
		}
	}
	for i, p := range perms {
		for _, v := range [][]int{everywhere(0), unmoved(), someVectors()[i%len(someVectors())]} {
			check(v, p)
		}
	}
}

// TestPromise75Octad has all octads with all signs.
func TestPromise75Octad(t *testing.T) {
	last := map[int]int{}
	for _, w := range octadsTold() {
		for signs := range 128 {
			v := mustOctadVector(t, w, signs)
			checkVector(t, "the vector of an octad", v, octadVectorTold(w, signs))
			checkLeast(t, v)
			places, minus := 0, 0
			for place, n := range v {
				if n != 0 {
					places |= 1 << place
				}
				if n == -2 {
					minus++
				}
			}
			if places != w || minus%2 != 0 {
				t.Fatalf("the vector of the octad %#x with the signs %d is %v", w, signs, v)
			}
			last[v[bits.Len(uint(w))-1]]++
		}
	}
	if last[2] != 759*64 || last[-2] != 759*64 {
		t.Errorf("the last numbers are %v", last)
	}
}

func TestOctadVectorsOutright(t *testing.T) {
	cases := []struct {
		w, signs int
		want     []int
	}{
		{255, 0, onWord(255, 2, 0)},
		{255, 127, onWord(255, -2, 0)},
		{255, 1, flippedTold(onWord(255, 2, 0), 129)},
		{255, 64, flippedTold(onWord(255, 2, 0), 192)},
		{255, 3, flippedTold(onWord(255, 2, 0), 3)},
		{255, 96, flippedTold(onWord(255, 2, 0), 96)},
		{255, 126, flippedTold(onWord(255, 2, 0), 126)},
		{255, 63, flippedTold(onWord(255, 2, 0), 63)},
		{255, 7, flippedTold(onWord(255, 2, 0), 135)},
		{0xFF0000, 0, onWord(0xFF0000, 2, 0)},
		{0xFF0000, 127, onWord(0xFF0000, -2, 0)},
		{0xFF0000, 2, flippedTold(onWord(0xFF0000, 2, 0), 0x820000)},
		{0xF0000F, 16, flippedTold(onWord(0xF0000F, 2, 0), 0x900000)},
		{0xF0000F, 72, flippedTold(onWord(0xF0000F, 2, 0), 0x400008)},
	}
	for _, c := range cases {
		checkVector(t, "the vector of an octad", mustOctadVector(t, c.w, c.signs), c.want)
	}
}

func TestOctadVectorFails(t *testing.T) {
	check := func(w, signs int) {
		t.Helper()
		v, ok := impl.LatticeOctad(w, signs)
		checkNoVector(t, "the vector of an octad", v, ok)
	}
	noSigns := []int{-1, -2, -127, -128, 128, 129, 255, 256, 1 << 31, 1 << 32, 1<<32 + 5, -1 << 32, 127 - 1<<32, math.MinInt, math.MaxInt}
	for _, w := range noOctads() {
		for _, signs := range []int{0, 1, 127, -1, 128} {
			check(w, signs)
		}
	}
	for _, w := range octadsTold() {
		for _, signs := range noSigns {
			check(w, signs)
		}
		check(w^impl.WordMax, 0)
		check(w^1, 5)
		check(w|1<<24, 0)
	}
}

// TestPromise76Three has all words of the code and all places.
func TestPromise76Three(t *testing.T) {
	for place := range 24 {
		first := mustThree(t, 0, place)
		for _, w := range codeTold() {
			v := mustThree(t, w, place)
			checkVector(t, "the vector of a word of the code", v, threeVectorTold(w, place))
			checkLeast(t, v)
			if n := mustInner(t, v, first); n%8 != 0 {
				t.Fatalf("the inner product of %v and %v is %d", v, first, n)
			}
		}
	}
}

func TestThreesOutright(t *testing.T) {
	for place := range 24 {
		checkVector(t, "the vector of the word 0", mustThree(t, 0, place), withNumber(everywhere(1), place, -3))
		checkVector(t, "the vector of all places", mustThree(t, impl.WordMax, place), withNumber(everywhere(-1), place, 3))
	}
	checkVector(t, "the vector of an octad with the place", mustThree(t, 255, 7), withNumber(onWord(255, -1, 1), 7, 3))
	checkVector(t, "the vector of an octad without the place", mustThree(t, 255, 8), withNumber(onWord(255, -1, 1), 8, -3))
	checkVector(t, "the vector of a word of 16 places with the place", mustThree(t, 0xFFFF00, 23), withNumber(onWord(255, 1, -1), 23, 3))
	checkVector(t, "the vector of a word of 16 places without the place", mustThree(t, 0xFFFF00, 0), withNumber(onWord(255, 1, -1), 0, -3))
}

func TestThreeFails(t *testing.T) {
	check := func(w, place int) {
		t.Helper()
		v, ok := impl.LatticeThree(w, place)
		checkNoVector(t, "the vector of a word of the code", v, ok)
	}
	for i, w := range slices.Concat(noWords(), someWords(), wrongWords(), oddWords()) {
		if !inCode()[w] {
			check(w, i%24)
			check(w, bits.Len(uint(w))-1)
			check(w, 24)
		}
	}
	for i, w := range codeTold() {
		for _, place := range badPlaces() {
			check(w, place)
		}
		check(w^1<<(i%24), i%24)
		check(w|1<<24, i%24)
		check(w-1<<32, i%24)
	}
}

// TestPromise77Four has all places in both orders, with both signs each way.
func TestPromise77Four(t *testing.T) {
	count := 0
	for p := range 24 {
		for q := range 24 {
			for _, first := range []bool{false, true} {
				for _, second := range []bool{false, true} {
					if p == q {
						v, ok := impl.LatticeFour(p, q, first, second)
						checkNoVector(t, "the vector of the same place twice", v, ok)
						continue
					}
					v := mustFour(t, p, q, first, second)
					checkVector(t, "the vector of two places", v, fourVectorTold(p, q, first, second))
					checkLeast(t, v)
					checkVector(t, "the vector of the places exchanged", mustFour(t, q, p, second, first), v)
					checkVector(t, "the sum with the opposite", mustSum(t, v, mustFour(t, p, q, !first, !second)), everywhere(0))
					count++
				}
			}
		}
	}
	if count != 24*23*4 {
		t.Errorf("there are %d vectors of two places", count)
	}
	checkVector(t, "the vector of 0 and 23", mustFour(t, 0, 23, true, false), withNumber(withNumber(everywhere(0), 0, -4), 23, 4))
	checkVector(t, "the vector of 23 and 0", mustFour(t, 23, 0, true, false), withNumber(withNumber(everywhere(0), 0, 4), 23, -4))
	checkVector(t, "the vector of 5 and 6", mustFour(t, 5, 6, false, false), onWord(0x60, 4, 0))
	checkVector(t, "the vector of 6 and 5", mustFour(t, 6, 5, true, true), onWord(0x60, -4, 0))
}

func TestFourVectorFails(t *testing.T) {
	for _, bad := range badPlaces() {
		for place := range 24 {
			for _, pair := range [][2]int{{bad, place}, {place, bad}, {bad, bad}, {place + 24, place}, {place, place - 24}, {place | 1<<32, place}} {
				for _, sign := range []bool{false, true} {
					v, ok := impl.LatticeFour(pair[0], pair[1], sign, false)
					checkNoVector(t, "the vector of two places", v, ok)
					v, ok = impl.LatticeFour(pair[0], pair[1], sign, true)
					checkNoVector(t, "the vector of two places", v, ok)
				}
			}
		}
	}
}

func TestPromise78Shape(t *testing.T) {
	for _, v := range slices.Concat(someVectors(), latticeVectors(), nearVectors()) {
		sizes, want := mustShape(t, v), []int{}
		for _, n := range v {
			if n < 0 {
				n = -n
			}
			want = append(want, n)
		}
		slices.Sort(want)
		checkVector(t, "the shape", sizes, want)
		if sizes[0] < 0 || !slices.IsSorted(sizes) || innerTold(sizes, sizes) != mustInner(t, v, v) {
			t.Fatalf("the shape of %v is %v", v, sizes)
		}
	}
	cases := []struct{ v, want []int }{
		{everywhere(0), everywhere(0)},
		{everywhere(-coordTold), everywhere(coordTold)},
		{onWord(0xF0F0F0, coordTold, -coordTold), everywhere(coordTold)},
		{threeVectorTold(255, 3), append(slices.Repeat([]int{1}, 23), 3)},
		{octadVectorTold(255, 37), append(make([]int, 16), slices.Repeat([]int{2}, 8)...)},
		{fourVectorTold(0, 9, true, false), append(make([]int, 22), 4, 4)},
		{eachOf(func(place int) int { return 12 - place }), []int{0, 1, 1, 2, 2, 3, 3, 4, 4, 5, 5, 6, 6, 7, 7, 8, 8, 9, 9, 10, 10, 11, 11, 12}},
	}
	for _, c := range cases {
		checkVector(t, "the shape", mustShape(t, c.v), c.want)
	}
	for _, v := range noVectors() {
		sizes, ok := impl.LatticeShape(v)
		checkNoVector(t, "a shape", sizes, ok)
	}
}

// TestLeastVectors counts the vectors with the square 32: those of octads, of words and of two places are all different.
func TestLeastVectors(t *testing.T) {
	seen := map[[24]int8]bool{}
	see := func(v []int) {
		small := [24]int8{}
		for place, n := range v {
			small[place] = int8(n)
		}
		seen[small] = true
	}
	for _, w := range octadsTold() {
		for signs := range 128 {
			see(mustOctadVector(t, w, signs))
		}
	}
	for place := range 24 {
		for _, w := range codeTold() {
			see(mustThree(t, w, place))
		}
		for other := range place {
			for signs := range 4 {
				see(mustFour(t, place, other, signs&1 == 1, signs&2 == 2))
			}
		}
	}
	if len(seen) != 196560 {
		t.Errorf("there are %d different vectors with the square 32", len(seen))
	}
}

func TestVectorArgumentsStay(t *testing.T) {
	lists := slices.Concat(noVectors()[:200], someVectors(), latticeVectors(), noPerms()[:60], somePerms()[:40])
	for _, list := range lists {
		whole := append(slices.Clone(list), 1, 2, 3)
		kept := slices.Clone(whole)
		part := whole[:len(list)]
		impl.VectorValid(part)
		impl.LatticeIn(part)
		impl.LatticeAdd(part, part)
		impl.LatticeAdd(part, onWord(255, 2, 0))
		impl.LatticeAdd(onWord(255, -2, 0), part)
		impl.LatticeInner(part, part)
		impl.LatticeInner(part, everywhere(-5))
		impl.LatticeInner(everywhere(5), part)
		impl.LatticeFlip(part, 4321)
		impl.LatticeFlip(part, impl.WordMax)
		impl.LatticeMove(part, part)
		impl.LatticeMove(part, around())
		impl.LatticeMove(everywhere(7), part)
		impl.LatticeShape(part)
		if !slices.Equal(whole, kept) {
			t.Fatalf("the list %v became %v", kept, whole)
		}
	}
}

// latticeResults runs each function of the lattice that returns a list, where the result could be an argument itself.
func latticeResults(t *testing.T, v, zero, p []int) [][]int {
	t.Helper()
	return [][]int{mustSum(t, v, zero), mustSum(t, zero, v), mustSum(t, zero, zero), mustFlip(t, v, 0), mustFlip(t, v, 255), mustFlip(t, zero, impl.WordMax),
		mustVectorMoved(t, v, p), mustVectorMoved(t, zero, p), mustVectorMoved(t, p, p), mustOctadVector(t, 255, 0), mustOctadVector(t, 255, 127),
		mustThree(t, 0, 0), mustThree(t, impl.WordMax, 23), mustFour(t, 0, 1, false, false), mustFour(t, 1, 0, false, false),
		mustShape(t, v), mustShape(t, zero), mustShape(t, p)}
}

func TestLatticeResultsAreNewMemory(t *testing.T) {
	for _, v := range [][]int{everywhere(0), everywhere(2), onWord(0xFF0000, 2, 0), withNumber(everywhere(1), 23, 5), latticeMixed(9)} {
		for _, p := range [][]int{unmoved(), around(), exchanged(unmoved(), 4, 9)} {
			zero := make([]int, 24)
			checkNewMemory(t, func() [][]int { return latticeResults(t, v, zero, p) }, v, zero, p)
		}
	}
}

// TestLatticeResultsHaveNoRoom appends to a result: nothing else may change, and there is no room to do it in.
func TestLatticeResultsHaveNoRoom(t *testing.T) {
	for i, v := range latticeResults(t, onWord(255, 2, 0), everywhere(0), around()) {
		if len(v) != 24 || cap(v) != 24 {
			t.Errorf("the result %d has %d numbers and room for %d", i, len(v), cap(v))
		}
	}
}
