package tests

import (
	"math"
	"math/bits"
	"slices"
	"sync"
	"testing"

	"loop.example/golayoctads/impl"
)

const (
	// farTold is the far place of the line, as a number and as a word.
	farTold     = 23
	farWordTold = 1 << farTold
	// allResidues has all places below 23.
	allResidues = farWordTold - 1
)

// The orders that divide 11, 12 or 23.
var lineOrders = []int{1, 2, 3, 4, 6, 11, 12, 23}

// noResidues has numbers just outside, such as are a residue modulo 23 or in fewer bits, and the ends of the type.
func noResidues() []int {
	return []int{-1, -2, -11, -21, -22, -23, -24, 23, 24, 25, 45, 46, 47, 255, 256, 257, 1<<16 + 1, 1 << 32, 1<<32 + 2,
		-1 << 32, 1<<32 - 22, 1<<62 + 1, math.MinInt, math.MinInt + 1, math.MaxInt - 1, math.MaxInt}
}

// noResiduesLike adds to these such as are this residue modulo 23 or in fewer bits.
func noResiduesLike(n int) []int {
	return append(noResidues(), n+23, n-23, n+46, n-46, n|1<<8, n|1<<32, n-1<<32)
}

// noLinePlacesLike has the same for a place of the line: 23 is one, and what is x modulo 24 or modulo 23 is none.
func noLinePlacesLike(x int) []int {
	list := []int{x + 24, x - 24, x + 48}
	for _, bad := range noResiduesLike(x) {
		if bad < 0 || bad > farTold {
			list = append(list, bad)
		}
	}
	return list
}

func isSquareTold(n int) bool {
	for root := 1; root < 23; root++ {
		if root*root%23 == n {
			return true
		}
	}
	return false
}

// rest is the residue of any number.
func rest(n int) int {
	return (n%23 + 23) % 23
}

// generatorTold is the generator by the definition.
func generatorTold(i int) int {
	w := farWordTold
	for x := range 23 {
		if isSquareTold(rest(x - i)) {
			w |= 1 << x
		}
	}
	return w
}

// lineSumTold adds the generators of the places of a word below 23.
func lineSumTold(w int) int {
	sum := 0
	for _, place := range placesOf(w & allResidues) {
		sum ^= generatorTold(place)
	}
	return sum
}

// lineCodeTold has all sums of generators.
var lineCodeTold = sync.OnceValue(func() map[int]bool {
	code := map[int]bool{0: true}
	for i := range 23 {
		generator := generatorTold(i)
		if code[generator] {
			continue
		}
		sums := []int{}
		for w := range code {
			sums = append(sums, w^generator)
		}
		for _, w := range sums {
			code[w] = true
		}
	}
	return code
})

// A move has the numbers a, b, c and d.
type move [4]int

func (m move) isMove() bool {
	return isSquareTold(m.part())
}

// part is a d - b c.
func (m move) part() int {
	return rest(m[0]*m[3] - m[1]*m[2])
}

func (m move) back() move {
	return move{m[3], rest(-m[1]), rest(-m[2]), m[0]}
}

// fraction tells a place of the line as a top and a bottom: the far one is 1 over 0.
func fraction(x int) (int, int) {
	if x == farTold {
		return 1, 0
	}
	return x, 1
}

// moved finds the place of the line that is the moved fraction, without dividing by anything.
func (m move) moved(x int) int {
	top, bottom := fraction(x)
	top, bottom = m[0]*top+m[1]*bottom, m[2]*top+m[3]*bottom
	for y := range 24 {
		if n, d := fraction(y); (top*d-n*bottom)%23 == 0 {
			return y
		}
	}
	return -1
}

func (m move) list() []int {
	list := make([]int, 24)
	for x := range list {
		list[x] = m.moved(x)
	}
	return list
}

// allFours has all numbers a, b, c and d that are residues.
func allFours() []move {
	fours := make([]move, 0, 23*23*23*23)
	for n := range 23 * 23 * 23 * 23 {
		fours = append(fours, move{n / (23 * 23 * 23), n / (23 * 23) % 23, n / 23 % 23, n % 23})
	}
	return fours
}

// lineMoves has each move of the line once: all numbers times the same residue move alike, so c is 1, or 0 with d 1.
func lineMoves() []move {
	moves := []move{}
	for _, m := range allFours() {
		if m.isMove() && (m[2] == 1 || m[2] == 0 && m[3] == 1) {
			moves = append(moves, m)
		}
	}
	return moves
}

// fewMoves has moves with c 0 and others, with a d - b c 1 and another square, and some spread over all.
func fewMoves() []move {
	moves := []move{{1, 0, 0, 1}, {22, 0, 0, 22}, {1, 1, 0, 1}, {1, 22, 0, 1}, {2, 0, 0, 1}, {0, 22, 1, 0}, {0, 1, 22, 0}, {1, 0, 1, 1},
		{22, 22, 22, 21}, {0, 4, 17, 22}}
	for i, m := range lineMoves() {
		if i%97 == 41 {
			moves = append(moves, m)
		}
	}
	return moves
}

func mustLineMove(t *testing.T, m move, x int) int {
	t.Helper()
	y, ok := impl.LineMove(m[0], m[1], m[2], m[3], x)
	if !ok {
		t.Fatalf("%v doesn't move %d", m, x)
	}
	return y
}

func mustLinePerm(t *testing.T, m move) []int {
	t.Helper()
	p, ok := impl.LinePerm(m[0], m[1], m[2], m[3])
	if !ok || len(p) != 24 {
		t.Fatalf("the permutation of %v is %v, %t", m, p, ok)
	}
	return p
}

func mustLineWord(t *testing.T, i int) int {
	t.Helper()
	w, ok := impl.LineWord(i)
	if !ok {
		t.Fatalf("there is no generator %d", i)
	}
	return w
}

func mustLineSum(t *testing.T, w int) int {
	t.Helper()
	sum, ok := impl.LineSum(w)
	if !ok {
		t.Fatalf("there is no sum for %#x", w)
	}
	return sum
}

func checkNoMove(t *testing.T, m move, x int) {
	t.Helper()
	if y, ok := impl.LineMove(m[0], m[1], m[2], m[3], x); ok || y != 0 {
		t.Fatalf("%v moves %d to %d, %t", m, x, y, ok)
	}
}

func checkNoLinePerm(t *testing.T, m move) {
	t.Helper()
	if p, ok := impl.LinePerm(m[0], m[1], m[2], m[3]); ok || len(p) != 0 {
		t.Fatalf("the permutation of %v is %v, %t", m, p, ok)
	}
}

func checkLineIn(t *testing.T, w int, want bool) {
	t.Helper()
	if in := impl.LineIn(w); in != want {
		t.Fatalf("that %#x is in the line code is %t", w, in)
	}
}

// codeWeight reports whether a word has one of the weights of the code.
func codeWeight(w int) bool {
	return slices.Contains([]int{0, 8, 12, 16, 24}, impl.WordWeight(w))
}

// TestLineCodeIsACode guards the tests below: the line code told has as many words of each weight as the code.
func TestLineCodeIsACode(t *testing.T) {
	count := map[int]int{}
	for w := range lineCodeTold() {
		count[bits.OnesCount(uint(w))]++
	}
	if len(count) != 5 || count[0] != 1 || count[8] != 759 || count[12] != 2576 || count[16] != 759 || count[24] != 1 {
		t.Errorf("the words of the line code have the weights %v", count)
	}
}

func TestResidueConstants(t *testing.T) {
	if impl.Modulus != 23 {
		t.Errorf("Modulus is %d", impl.Modulus)
	}
}

func TestPromise62Square(t *testing.T) {
	squares := []int{}
	for n := range 23 {
		if impl.ResidueSquare(n) != isSquareTold(n) {
			t.Errorf("that %d is a square is %t", n, impl.ResidueSquare(n))
		}
		if !impl.ResidueSquare(n) {
			continue
		}
		squares = append(squares, n)
		if impl.ResidueSquare(23-n) || !impl.ResidueSquare(2*n%23) || !impl.ResidueSquare(n*n%23) {
			t.Errorf("%d is a square, and %d is %t, %d is %t and %d is %t", n, 23-n, impl.ResidueSquare(23-n),
				2*n%23, impl.ResidueSquare(2*n%23), n*n%23, impl.ResidueSquare(n*n%23))
		}
	}
	if !slices.Equal(squares, []int{1, 2, 3, 4, 6, 8, 9, 12, 13, 16, 18}) {
		t.Errorf("the squares are %v", squares)
	}
	for n := range 23 {
		for _, bad := range noResiduesLike(n) {
			if impl.ResidueSquare(bad) {
				t.Errorf("%d is a square", bad)
			}
		}
	}
}

func TestPromise63Turned(t *testing.T) {
	for n := 1; n < 23; n++ {
		turned, ok := impl.ResidueTurned(n)
		if !ok || turned < 0 || turned > 22 || turned*n%23 != 1 {
			t.Fatalf("1 over %d is %d, %t", n, turned, ok)
		}
		if back, fine := impl.ResidueTurned(turned); !fine || back != n {
			t.Errorf("1 over %d is %d, and 1 over this is %d, %t", n, turned, back, fine)
		}
		if impl.ResidueSquare(turned) != impl.ResidueSquare(n) {
			t.Errorf("that %d is a square is %t, and that %d is one %t", n, impl.ResidueSquare(n), turned, impl.ResidueSquare(turned))
		}
	}
	for n, want := range map[int]int{1: 1, 2: 12, 3: 8, 5: 14, 7: 10, 11: 21, 22: 22} {
		if turned, ok := impl.ResidueTurned(n); !ok || turned != want {
			t.Errorf("1 over %d is %d, %t, not %d", n, turned, ok, want)
		}
	}
	for n := range 23 {
		for _, bad := range append(noResiduesLike(n), 0) {
			if turned, ok := impl.ResidueTurned(bad); ok || turned != 0 {
				t.Fatalf("1 over %d is %d, %t", bad, turned, ok)
			}
		}
	}
}

// TestPromise64Move has all numbers a, b, c and d that are residues, and all places of the line.
func TestPromise64Move(t *testing.T) {
	parts := map[int]int{}
	toFar, farStays := 0, 0
	for _, m := range allFours() {
		if !m.isMove() {
			for _, x := range []int{0, 1, 22, farTold} {
				checkNoMove(t, m, x)
			}
			parts[m.part()]++
			continue
		}
		parts[m.part()]++
		for x := range 24 {
			y := mustLineMove(t, m, x)
			if back := mustLineMove(t, m.back(), y); y != m.moved(x) || back != x {
				t.Fatalf("%v moves %d to %d, not %d, and this back to %d", m, x, y, m.moved(x), back)
			}
			if x != farTold && y == farTold {
				toFar++
			}
			if x == farTold && y == farTold {
				farStays++
			}
		}
	}
	// Numbers with a d - b c 0 are those where c and d are anything times a and b, or a and b are 0.
	if parts[0] != 528*23+529 || parts[1] != 23*24*22 || parts[2] != parts[1] || parts[22] != parts[1] {
		t.Errorf("a d - b c is %v", parts)
	}
	if farStays != 22*11*23 || toFar != 11*parts[1]-farStays {
		t.Errorf("%d moves leave the far place, and %d lead another one to it", farStays, toFar)
	}
}

func TestMovesOutright(t *testing.T) {
	cases := []struct {
		m    move
		x, y int
	}{
		{move{1, 0, 0, 1}, 0, 0}, {move{1, 0, 0, 1}, 22, 22}, {move{1, 0, 0, 1}, 23, 23},
		{move{1, 1, 0, 1}, 0, 1}, {move{1, 1, 0, 1}, 22, 0}, {move{1, 1, 0, 1}, 23, 23},
		{move{2, 0, 0, 1}, 12, 1}, {move{2, 0, 0, 1}, 22, 21}, {move{2, 0, 0, 1}, 23, 23},
		{move{1, 0, 0, 2}, 1, 12}, {move{1, 0, 0, 2}, 22, 11}, {move{1, 0, 0, 2}, 23, 23},
		{move{0, 22, 1, 0}, 0, 23}, {move{0, 22, 1, 0}, 1, 22}, {move{0, 22, 1, 0}, 2, 11}, {move{0, 22, 1, 0}, 23, 0},
		{move{0, 1, 22, 0}, 0, 23}, {move{0, 1, 22, 0}, 2, 11}, {move{0, 1, 22, 0}, 23, 0},
		{move{1, 0, 1, 1}, 0, 0}, {move{1, 0, 1, 1}, 1, 12}, {move{1, 0, 1, 1}, 22, 23}, {move{1, 0, 1, 1}, 23, 1},
		{move{3, 1, 2, 1}, 11, 23}, {move{3, 1, 2, 1}, 23, 13}, {move{3, 1, 2, 1}, 15, 0}, {move{3, 1, 2, 1}, 1, 9},
	}
	for _, c := range cases {
		if y := mustLineMove(t, c.m, c.x); y != c.y {
			t.Errorf("%v moves %d to %d, not %d", c.m, c.x, y, c.y)
		}
	}
}

func TestMoveFails(t *testing.T) {
	for _, m := range fewMoves() {
		for x := range 24 {
			for k := range m {
				for _, bad := range noResiduesLike(m[k]) {
					other := m
					other[k] = bad
					checkNoMove(t, other, x)
				}
			}
			for _, bad := range noLinePlacesLike(x) {
				checkNoMove(t, m, bad)
			}
		}
	}
	for _, m := range []move{{0, 0, 0, 0}, {1, 1, 1, 1}, {1, 0, 0, 0}, {0, 0, 0, 1}, {2, 3, 4, 6}, {22, 0, 0, 1}, {5, 0, 0, 1}, {0, 1, 1, 0}} {
		for x := range 24 {
			checkNoMove(t, m, x)
			checkNoMove(t, m, noResiduesLike(x)[x])
		}
		checkNoLinePerm(t, m)
	}
}

// TestFarPlace has 23 wherever a number is asked for: it is a place of the line, but no residue.
func TestFarPlace(t *testing.T) {
	for _, m := range lineMoves() {
		y := mustLineMove(t, m, farTold)
		if m[2] == 0 && y != farTold {
			t.Fatalf("%v moves the far place to %d", m, y)
		}
		if m[2] != 0 && (y == farTold || y*m[2]%23 != m[0]) {
			t.Fatalf("%v moves the far place to %d", m, y)
		}
		for x := range 23 {
			if bottom := (m[2]*x + m[3]) % 23; (bottom == 0) != (mustLineMove(t, m, x) == farTold) {
				t.Fatalf("%v moves %d to %d, and c x + d is %d", m, x, mustLineMove(t, m, x), bottom)
			}
		}
		if p := mustLinePerm(t, m); p[farTold] != y {
			t.Fatalf("%v moves the far place to %d and to %d", m, y, p[farTold])
		}
	}
	for _, m := range []move{{farTold, 0, 0, 1}, {1, farTold, 0, 1}, {1, 0, farTold, 1}, {1, 0, 0, farTold}} {
		checkNoMove(t, m, 0)
		checkNoMove(t, m, farTold)
		checkNoLinePerm(t, m)
	}
	for i := range 23 {
		if mustLineWord(t, i)&farWordTold == 0 || mustLineSum(t, 1<<i|farWordTold) != mustLineWord(t, i) {
			t.Errorf("the generator %d is %#x", i, mustLineWord(t, i))
		}
	}
	for w := range lineCodeTold() {
		checkLineIn(t, w^farWordTold, false)
	}
}

// TestPromise65Perm has all numbers a, b, c and d that are residues.
func TestPromise65Perm(t *testing.T) {
	for _, m := range allFours() {
		if !m.isMove() {
			checkNoLinePerm(t, m)
			continue
		}
		if p := mustLinePerm(t, m); !impl.PermValid(p) || !slices.Equal(p, m.list()) {
			t.Fatalf("the permutation of %v is %v, not %v", m, p, m.list())
		}
	}
}

func TestPromise65KeepsTheLineCode(t *testing.T) {
	generators, orders := []int{}, map[int]int{}
	for i := range 23 {
		generators = append(generators, mustLineWord(t, i))
	}
	for _, m := range lineMoves() {
		p := mustLinePerm(t, m)
		for _, w := range generators {
			if moved := mustMoved(t, p, w); !impl.LineIn(moved) || !lineCodeTold()[moved] {
				t.Fatalf("%v moves %#x to %#x", m, w, moved)
			}
		}
		orders[mustPermOrder(t, p)]++
	}
	sum := 0
	for _, n := range lineOrders {
		if orders[n] == 0 {
			t.Errorf("no permutation has the order %d", n)
		}
		sum += orders[n]
	}
	if len(orders) != len(lineOrders) || sum != 23*24*11 {
		t.Errorf("the permutations have the orders %v", orders)
	}
}

func TestLinePermsOutright(t *testing.T) {
	checkPerm(t, "the move of nothing", mustLinePerm(t, move{1, 0, 0, 1}), unmoved())
	checkPerm(t, "the move of nothing by other numbers", mustLinePerm(t, move{22, 0, 0, 22}), unmoved())
	checkPerm(t, "the move by one", mustLinePerm(t, move{1, 1, 0, 1}), append(append(unmoved()[1:23], 0), 23))
	checkPerm(t, "the move to the double", mustLinePerm(t, move{2, 0, 0, 1}),
		[]int{0, 2, 4, 6, 8, 10, 12, 14, 16, 18, 20, 22, 1, 3, 5, 7, 9, 11, 13, 15, 17, 19, 21, 23})
	checkPerm(t, "the move to -1 over x", mustLinePerm(t, move{0, 22, 1, 0}),
		[]int{23, 22, 11, 15, 17, 9, 19, 13, 20, 5, 16, 2, 21, 7, 18, 3, 10, 4, 14, 6, 8, 12, 1, 0})
}

func TestLinePermFails(t *testing.T) {
	for _, m := range fewMoves() {
		for k := range m {
			for _, bad := range noResiduesLike(m[k]) {
				other := m
				other[k] = bad
				checkNoLinePerm(t, other)
			}
		}
	}
}

func TestPromise66Word(t *testing.T) {
	first := mustLineWord(t, 0)
	for i := range 23 {
		w := mustLineWord(t, i)
		if w != generatorTold(i) || impl.WordWeight(w) != 12 {
			t.Errorf("the generator %d is %#x, not %#x", i, w, generatorTold(i))
		}
		checkLineIn(t, w, true)
		if moved := mustMoved(t, mustLinePerm(t, move{1, i, 0, 1}), first); moved != w {
			t.Errorf("the generator 0 moved by %d is %#x, and the generator is %#x", i, moved, w)
		}
	}
	for i, want := range map[int]int{
		0:  1<<1 | 1<<2 | 1<<3 | 1<<4 | 1<<6 | 1<<8 | 1<<9 | 1<<12 | 1<<13 | 1<<16 | 1<<18 | 1<<23,
		1:  1<<2 | 1<<3 | 1<<4 | 1<<5 | 1<<7 | 1<<9 | 1<<10 | 1<<13 | 1<<14 | 1<<17 | 1<<19 | 1<<23,
		22: 1<<0 | 1<<1 | 1<<2 | 1<<3 | 1<<5 | 1<<7 | 1<<8 | 1<<11 | 1<<12 | 1<<15 | 1<<17 | 1<<23,
	} {
		if w := mustLineWord(t, i); w != want {
			t.Errorf("the generator %d is %#x, not %#x", i, w, want)
		}
	}
	for i := range 23 {
		for _, bad := range noResiduesLike(i) {
			if w, ok := impl.LineWord(bad); ok || w != 0 {
				t.Fatalf("the generator %d is %#x, %t", bad, w, ok)
			}
		}
	}
}

func checkLineSum(t *testing.T, w int) {
	t.Helper()
	sum := mustLineSum(t, w)
	if sum != lineSumTold(w) || !codeWeight(sum) || !lineCodeTold()[sum] {
		t.Fatalf("the sum for %#x is %#x, not %#x", w, sum, lineSumTold(w))
	}
	checkLineIn(t, sum, true)
	if others := mustLineSum(t, ^w&allResidues); sum^others != mustLineSum(t, allResidues) {
		t.Fatalf("the sum for %#x is %#x and for the other places %#x", w, sum, others)
	}
	if other := mustLineSum(t, w^farWordTold); other != sum {
		t.Fatalf("the sum for %#x is %#x, but with the far place another way %#x", w, sum, other)
	}
}

func TestPromise67Sum(t *testing.T) {
	for _, w := range append(someWords(), farWordTold, allResidues) {
		checkLineSum(t, w)
	}
	for i := range 23 {
		checkLineSum(t, generatorTold(i))
		if sum := mustLineSum(t, 1<<i); sum != mustLineWord(t, i) {
			t.Errorf("the sum for the place %d is %#x", i, sum)
		}
	}
	for i := range 3000 {
		checkLineSum(t, i*oddStep%(impl.WordMax+1))
	}
	for w, want := range map[int]int{0: 0, farWordTold: 0, allResidues: impl.WordMax, impl.WordMax: impl.WordMax, 1: 8729438, farWordTold | 1: 8729438,
		3: 8729438 ^ generatorTold(1)} {
		if sum := mustLineSum(t, w); sum != want {
			t.Errorf("the sum for %#x is %#x, not %#x", w, sum, want)
		}
	}
	for _, w := range noWords() {
		if sum, ok := impl.LineSum(w); ok || sum != 0 {
			t.Errorf("the sum for %d is %#x, %t", w, sum, ok)
		}
	}
}

// TestSumsAreAllOfTheLineCode has all sums of twelve generators beside each other: each word of the line code is just one of them.
func TestSumsAreAllOfTheLineCode(t *testing.T) {
	found := map[int]bool{}
	for w := range 4096 {
		found[mustLineSum(t, w)] = true
	}
	for w := range lineCodeTold() {
		if !found[w] {
			t.Errorf("%#x is no sum", w)
		}
	}
	if len(found) != 4096 {
		t.Errorf("there are %d sums", len(found))
	}
}

func TestPromise68In(t *testing.T) {
	for w := range lineCodeTold() {
		checkLineIn(t, w, true)
		checkLineIn(t, impl.WordMax-w, true)
		for _, i := range []int{0, 22, w % 23} {
			checkLineIn(t, w^mustLineWord(t, i), true)
		}
		if !codeWeight(w) {
			t.Fatalf("%#x is in the line code", w)
		}
		for place := range 24 {
			checkLineIn(t, w^1<<place, false)
		}
	}
	for w, want := range map[int]bool{0: true, farWordTold: false, allResidues: false, impl.WordMax: true, 8729438: true, 8729438 - 2: false,
		8729438 ^ farWordTold: false, 255: lineCodeTold()[255]} {
		checkLineIn(t, w, want)
	}
	for _, w := range noWords() {
		checkLineIn(t, w, false)
	}
	for w := range lineCodeTold() {
		checkLineIn(t, w-impl.WordMax-1, false)
		checkLineIn(t, w+impl.WordMax+1, false)
		checkLineIn(t, w|1<<32, false)
	}
}

// TestOthersAreNotInTheLineCode has words of all kinds, and those of the code, most of which are no words of the line code.
func TestOthersAreNotInTheLineCode(t *testing.T) {
	for w := 0; w <= impl.WordMax; w += 131 {
		checkLineIn(t, w, lineCodeTold()[w])
	}
	for n := range 5 {
		for i, wrong := range wordsOfWeight(n) {
			checkLineIn(t, wrong, n == 0)
			checkLineIn(t, generatorTold(i%23)^wrong, n == 0)
		}
	}
	only := 0
	for _, w := range codeTold() {
		checkLineIn(t, w, lineCodeTold()[w])
		if !lineCodeTold()[w] {
			only++
		}
	}
	if only < 2000 {
		t.Errorf("only %d words of the code are not in the line code", only)
	}
}

func TestLineResultsAreNewMemory(t *testing.T) {
	checkNewMemory(t, func() [][]int {
		results := [][]int{}
		for _, m := range fewMoves()[:10] {
			results = append(results, mustLinePerm(t, m), mustLinePerm(t, m))
		}
		return results
	})
}
