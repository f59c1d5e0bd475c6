package tests

import (
	"math"
	"slices"
	"testing"

	"loop.example/golayoctads/impl"
)

// noDigits has numbers just outside, the ends of the type, and digits with a high bit besides.
func noDigits() []int {
	return []int{-1, -2, -3, -4, 4, 5, 6, 7, 8, 24, 255, 256, 257, -255, -256, 1 << 16, 1<<16 + 1, 1<<32 + 1,
		1 << 32, -1 << 32, 1<<62 + 3, math.MinInt, math.MinInt + 1, math.MaxInt}
}

// timesTold is the rule of the document for products, without the program.
func timesTold(a, b int) int {
	if a == 0 || b == 0 {
		return 0
	}
	return 1 + (a+b-2)%3
}

func squareTold(a int) int {
	return timesTold(a, a)
}

// hexTold makes the row for three digits from the definition, without the program.
func hexTold(a, b, c int) []int {
	row := []int{a, b, c}
	for x := 1; x < 4; x++ {
		row = append(row, timesTold(a, squareTold(x))^timesTold(b, x)^c)
	}
	return row
}

// hexacodeTold has the 64 rows of the hexacode in the order of their digits.
func hexacodeTold() [][]int {
	rows := [][]int{}
	for a := range 4 {
		for b := range 4 {
			for c := range 4 {
				rows = append(rows, hexTold(a, b, c))
			}
		}
	}
	return rows
}

// rowsOfDigits has all 4096 rows, of the hexacode or not, in the order of their digits.
func rowsOfDigits() [][]int {
	rows := make([][]int, 4096)
	for i := range rows {
		for k := range 6 {
			rows[i] = append(rows[i], i>>(10-2*k)&3)
		}
	}
	return rows
}

// someRows has rows of the hexacode and others that are spread over all.
func someRows() [][]int {
	all := rowsOfDigits()
	rows := [][]int{{0, 0, 0, 0, 0, 0}, {1, 0, 0, 0, 0, 0}, {0, 0, 0, 0, 0, 3}, {3, 3, 3, 3, 3, 3}, {1, 2, 3, 1, 2, 3}}
	for i := range 60 {
		rows = append(rows, all[(i*1097+31)%len(all)])
	}
	return append(rows, hexacodeTold()...)
}

// noRows has lists that are not of six numbers, and lists of six with one or more that are no digits.
func noRows() [][]int {
	lists := [][]int{nil, {}, make([]int, 0, 6), {4, 4, 4, 4, 4, 4}, {-1, -1, -1, -1, -1, -1}}
	for size := range 30 {
		if size != 6 {
			lists = append(lists, make([]int, size), slices.Repeat([]int{1}, size))
		}
	}
	for _, n := range []int{5, 6} {
		lists = append(lists, make([]int, n*1000))
	}
	for _, bad := range noDigits() {
		for i := range 6 {
			zeros, ones := make([]int, 6), []int{1, 1, 1, 1, 1, 1}
			zeros[i], ones[i] = bad, bad
			lists = append(lists, zeros, ones)
		}
	}
	return lists
}

func weightTold(row []int) int {
	n := 0
	for _, d := range row {
		if d > 0 {
			n++
		}
	}
	return n
}

func differTold(a, b []int) int {
	n := 0
	for i := range a {
		if a[i] != b[i] {
			n++
		}
	}
	return n
}

func mustHexOf(t *testing.T, a, b, c int) []int {
	t.Helper()
	row, ok := impl.HexOf(a, b, c)
	if !ok || len(row) != 6 {
		t.Fatalf("the row for %d, %d and %d is %v, %t", a, b, c, row, ok)
	}
	return row
}

func mustHexAdd(t *testing.T, a, b []int) []int {
	t.Helper()
	row, ok := impl.HexAdd(a, b)
	if !ok || len(row) != 6 {
		t.Fatalf("the sum of %v and %v is %v, %t", a, b, row, ok)
	}
	return row
}

func mustHexTimes(t *testing.T, a []int, n int) []int {
	t.Helper()
	row, ok := impl.HexTimes(a, n)
	if !ok || len(row) != 6 {
		t.Fatalf("%v times %d is %v, %t", a, n, row, ok)
	}
	return row
}

func TestPromise11DigitAdd(t *testing.T) {
	want := [4][4]int{{0, 1, 2, 3}, {1, 0, 3, 2}, {2, 3, 0, 1}, {3, 2, 1, 0}}
	for a := range 4 {
		for b := range 4 {
			sum := impl.DigitAdd(a, b)
			if sum != want[a][b] {
				t.Errorf("%d and %d are %d, not %d", a, b, sum, want[a][b])
			}
			if turned := impl.DigitAdd(b, a); turned != sum {
				t.Errorf("%d and %d are %d, exchanged %d", a, b, sum, turned)
			}
			if back := impl.DigitAdd(sum, b); back != a {
				t.Errorf("%d and %d are %d, and with the second one again %d", a, b, sum, back)
			}
		}
	}
}

func TestPromise12DigitTimes(t *testing.T) {
	want := [4][4]int{{0, 0, 0, 0}, {0, 1, 2, 3}, {0, 2, 3, 1}, {0, 3, 1, 2}}
	for a := range 4 {
		for b := range 4 {
			product := impl.DigitTimes(a, b)
			if product != want[a][b] || product != timesTold(a, b) {
				t.Errorf("%d times %d is %d, not %d", a, b, product, want[a][b])
			}
			if turned := impl.DigitTimes(b, a); turned != product {
				t.Errorf("%d times %d is %d, exchanged %d", a, b, product, turned)
			}
			if a != 0 && b != 0 && product == 0 {
				t.Errorf("%d times %d is 0", a, b)
			}
			if more := impl.DigitTimes(a, impl.DigitAdd(b, 1)); more != impl.DigitAdd(product, a) {
				t.Errorf("%d times %d is %d, and times the sum with 1 %d", a, b, product, more)
			}
		}
	}
}

func TestDigitsFail(t *testing.T) {
	pairs := [][2]int{}
	for _, bad := range noDigits() {
		pairs = append(pairs, [2]int{bad, bad})
		for d := range 4 {
			pairs = append(pairs, [2]int{bad, d}, [2]int{d, bad})
		}
	}
	for _, p := range pairs {
		if n := impl.DigitAdd(p[0], p[1]); n != -1 {
			t.Errorf("the sum of %v is %d", p, n)
		}
		if n := impl.DigitTimes(p[0], p[1]); n != -1 {
			t.Errorf("the product of %v is %d", p, n)
		}
	}
}

func TestPromise13Of(t *testing.T) {
	weights := map[int]int{}
	for _, want := range hexacodeTold() {
		a, b, c := want[0], want[1], want[2]
		row := mustHexOf(t, a, b, c)
		if !slices.Equal(row, want) || !slices.Equal(row[:3], []int{a, b, c}) {
			t.Errorf("the row for %d, %d and %d is %v, not %v", a, b, c, row, want)
		}
		if !impl.HexIn(row) {
			t.Errorf("the row %v is not in the hexacode", row)
		}
		weights[impl.HexWeight(row)]++
	}
	if len(weights) != 3 || weights[0] != 1 || weights[4] != 45 || weights[6] != 18 {
		t.Errorf("the weights of the hexacode are %v", weights)
	}
}

func TestRowsToldOutright(t *testing.T) {
	rows := [][]int{{0, 0, 0, 0, 0, 0}, {1, 0, 0, 1, 3, 2}, {0, 1, 0, 1, 2, 3}, {0, 0, 1, 1, 1, 1}, {3, 0, 0, 3, 2, 1},
		{0, 3, 0, 3, 1, 2}, {0, 0, 3, 3, 3, 3}, {3, 3, 0, 0, 3, 3}, {3, 3, 3, 3, 0, 0}, {1, 2, 3, 0, 3, 0}}
	for _, want := range rows {
		if row := mustHexOf(t, want[0], want[1], want[2]); !slices.Equal(row, want) {
			t.Errorf("the row for %v is %v, not %v", want[:3], row, want)
		}
	}
}

func TestHexOfFails(t *testing.T) {
	for _, bad := range noDigits() {
		for _, d := range [][3]int{{bad, 0, 0}, {0, bad, 0}, {0, 0, bad}, {bad, 3, 3}, {3, bad, 3}, {3, 3, bad}, {bad, bad, bad}} {
			if row, ok := impl.HexOf(d[0], d[1], d[2]); ok || len(row) != 0 {
				t.Errorf("the row for %v is %v, %t", d, row, ok)
			}
		}
	}
}

func TestPromise14In(t *testing.T) {
	told := hexacodeTold()
	for _, row := range rowsOfDigits() {
		want := slices.ContainsFunc(told, func(r []int) bool { return slices.Equal(r, row) })
		if in := impl.HexIn(row); in != want {
			t.Errorf("that %v is in the hexacode is %t", row, in)
		}
		if !want {
			continue
		}
		twice := mustHexTimes(t, row, 2)
		if !impl.HexIn(twice) || !impl.HexIn(mustHexAdd(t, twice, row)) {
			t.Errorf("%v is in the hexacode, but not that times 2, %v, or the sum", row, twice)
		}
		if n := impl.HexInner(row, row); n != 0 {
			t.Errorf("%v with itself is %d", row, n)
		}
	}
	for _, list := range noRows() {
		if impl.HexIn(list) {
			t.Errorf("%v is in the hexacode", list)
		}
	}
}

func TestHexInFailsForOtherLengths(t *testing.T) {
	for _, row := range hexacodeTold() {
		for _, list := range [][]int{row[:5], row[1:], append(slices.Clone(row), 0), append([]int{0}, row...), append(row, row...)} {
			if impl.HexIn(list) {
				t.Errorf("%v is in the hexacode", list)
			}
		}
	}
}

func TestPromise15Add(t *testing.T) {
	for _, a := range someRows() {
		for _, b := range someRows() {
			sum := mustHexAdd(t, a, b)
			for i := range 6 {
				if sum[i] != a[i]^b[i] {
					t.Fatalf("the sum of %v and %v is %v", a, b, sum)
				}
			}
			if back := mustHexAdd(t, sum, b); !slices.Equal(back, a) {
				t.Fatalf("the sum of %v and %v is %v, and with the second one again %v", a, b, sum, back)
			}
			if !impl.HexIn(a) || !impl.HexIn(b) {
				continue
			}
			if n := impl.HexInner(a, b); !impl.HexIn(sum) || n != 0 {
				t.Fatalf("the sum of %v and %v of the hexacode is %v, and one with the other is %d", a, b, sum, n)
			}
		}
	}
}

func TestPromise16Times(t *testing.T) {
	for _, row := range rowsOfDigits() {
		for n := range 4 {
			product := mustHexTimes(t, row, n)
			for i := range 6 {
				if product[i] != timesTold(row[i], n) {
					t.Fatalf("%v times %d is %v", row, n, product)
				}
			}
			if n == 0 {
				continue
			}
			if impl.HexWeight(product) != impl.HexWeight(row) {
				t.Fatalf("%v times %d is %v, with another weight", row, n, product)
			}
			if back := mustHexTimes(t, mustHexTimes(t, product, n), n); !slices.Equal(back, row) {
				t.Fatalf("%v times %d three times is %v", row, n, back)
			}
		}
	}
}

func TestPromise17Weight(t *testing.T) {
	for _, row := range rowsOfDigits() {
		n := impl.HexWeight(row)
		if n != weightTold(row) || n < 0 || n > 6 || (n == 0) != slices.Equal(row, make([]int, 6)) {
			t.Errorf("the weight of %v is %d", row, n)
		}
	}
	for _, list := range noRows() {
		if n := impl.HexWeight(list); n != -1 {
			t.Errorf("the weight of %v is %d", list, n)
		}
	}
}

func TestPromise18Inner(t *testing.T) {
	for _, a := range someRows() {
		for _, b := range someRows() {
			want := 0
			for i := range 6 {
				want ^= timesTold(a[i], squareTold(b[i]))
			}
			n := impl.HexInner(a, b)
			if n != want {
				t.Fatalf("%v with %v is %d, not %d", a, b, n, want)
			}
			if turned := impl.HexInner(b, a); turned != impl.DigitTimes(n, n) {
				t.Fatalf("%v with %v is %d, exchanged %d", a, b, n, turned)
			}
			whole := impl.HexInner(mustHexAdd(t, a, b), b)
			if whole != impl.DigitAdd(n, impl.HexInner(b, b)) {
				t.Fatalf("%v with %v is %d, and the sum of both with the second one %d", a, b, n, whole)
			}
		}
	}
}

// TestInnerMirrorsTheSecond tells apart which one of both rows is mirrored.
func TestInnerMirrorsTheSecond(t *testing.T) {
	one := []int{1, 0, 0, 0, 0, 0}
	for i := range 6 {
		for d, mirror := range []int{0, 1, 3, 2} {
			row, same := make([]int, 6), make([]int, 6)
			row[i], same[i] = d, 1
			if n := impl.HexInner(row, same); n != d {
				t.Errorf("%v with %v is %d, not %d", row, same, n, d)
			}
			if n := impl.HexInner(same, row); n != mirror {
				t.Errorf("%v with %v is %d, not %d", same, row, n, mirror)
			}
			if n := impl.HexInner(one, row); i > 0 && n != 0 {
				t.Errorf("%v with %v is %d", one, row, n)
			}
		}
	}
}

func TestHexRowsFail(t *testing.T) {
	good := []int{1, 0, 0, 1, 3, 2}
	for _, bad := range noRows() {
		for _, pair := range [][2][]int{{bad, good}, {good, bad}, {bad, bad}, {bad, make([]int, 6)}, {make([]int, 6), bad}} {
			if row, ok := impl.HexAdd(pair[0], pair[1]); ok || len(row) != 0 {
				t.Errorf("the sum of %v is %v, %t", pair, row, ok)
			}
			if n := impl.HexInner(pair[0], pair[1]); n != -1 {
				t.Errorf("one with the other of %v is %d", pair, n)
			}
		}
		for _, n := range []int{0, 1, 3, 4, -1} {
			if row, ok := impl.HexTimes(bad, n); ok || len(row) != 0 {
				t.Errorf("%v times %d is %v, %t", bad, n, row, ok)
			}
		}
		if row, n, ok := impl.HexNear(bad); ok || n != 0 || len(row) != 0 {
			t.Errorf("near %v is %v with %d, %t", bad, row, n, ok)
		}
	}
	for _, n := range noDigits() {
		for _, a := range [][]int{good, make([]int, 6)} {
			if row, ok := impl.HexTimes(a, n); ok || len(row) != 0 {
				t.Errorf("%v times %d is %v, %t", a, n, row, ok)
			}
		}
	}
}

func TestPromise19Near(t *testing.T) {
	told := hexacodeTold()
	counts := map[int]int{}
	for _, row := range rowsOfDigits() {
		near, n, ok := impl.HexNear(row)
		if !ok || len(near) != 6 || !impl.HexIn(near) || differTold(near, row) != n || n > 2 || (n == 0) != impl.HexIn(row) {
			t.Fatalf("near %v is %v with %d, %t", row, near, n, ok)
		}
		want := slices.MinFunc(told, func(a, b []int) int { return differTold(a, row) - differTold(b, row) })
		if !slices.Equal(near, want) || n != differTold(want, row) {
			t.Fatalf("near %v is %v with %d, not %v with %d", row, near, n, want, differTold(want, row))
		}
		counts[n]++
	}
	if counts[0] != 64 || counts[1] != 1152 || counts[2] != 2880 {
		t.Errorf("the rows that differ in so many digits are %v", counts)
	}
}

func TestNearToldOutright(t *testing.T) {
	cases := []struct {
		row, near []int
		n         int
	}{
		{[]int{0, 0, 0, 0, 0, 0}, []int{0, 0, 0, 0, 0, 0}, 0},
		{[]int{1, 0, 0, 0, 0, 0}, []int{0, 0, 0, 0, 0, 0}, 1},
		{[]int{0, 1, 2, 3, 0, 1}, []int{0, 1, 2, 3, 0, 1}, 0},
		{[]int{1, 1, 1, 0, 0, 0}, []int{1, 1, 1, 1, 0, 0}, 1},
		{[]int{1, 1, 0, 0, 0, 0}, []int{0, 0, 0, 0, 0, 0}, 2},
		{[]int{3, 3, 3, 3, 3, 3}, []int{0, 0, 3, 3, 3, 3}, 2},
		{[]int{1, 2, 3, 1, 2, 3}, []int{1, 2, 2, 1, 2, 1}, 2},
	}
	for _, c := range cases {
		if near, n, ok := impl.HexNear(c.row); !ok || n != c.n || !slices.Equal(near, c.near) {
			t.Errorf("near %v is %v with %d, %t, not %v with %d", c.row, near, n, ok, c.near, c.n)
		}
	}
}

// hexResults runs each function that returns a row, where sum and product could be an argument itself.
func hexResults(t *testing.T, a, b []int) [][]int {
	t.Helper()
	near, _, ok := impl.HexNear(a)
	if !ok {
		t.Fatalf("nothing is near %v", a)
	}
	return [][]int{mustHexOf(t, a[0], a[1], a[2]), mustHexAdd(t, a, b), mustHexAdd(t, b, a), mustHexAdd(t, a, a),
		mustHexTimes(t, a, 1), mustHexTimes(t, a, 2), mustHexTimes(t, a, 0), near}
}

func TestHexArgumentsStay(t *testing.T) {
	for _, row := range [][]int{{1, 0, 0, 1, 3, 2}, {0, 0, 0, 0, 0, 0}, {3, 1, 2, 3, 0, 0}} {
		// A spare number behind each list tells whether something is appended to it.
		a, b := append(slices.Clone(row), 77), []int{0, 0, 0, 0, 0, 0, 77}
		hexResults(t, a[:6], b[:6])
		impl.HexIn(a[:6])
		impl.HexWeight(a[:6])
		impl.HexInner(a[:6], b[:6])
		if !slices.Equal(a[:6], row) || !slices.Equal(b[:6], make([]int, 6)) || a[6] != 77 || b[6] != 77 {
			t.Errorf("the lists %v and 0 became %v and %v", row, a, b)
		}
	}
}

func TestHexResultsAreNewMemory(t *testing.T) {
	for _, row := range [][]int{{1, 0, 0, 1, 3, 2}, {0, 0, 0, 0, 0, 0}, {3, 1, 2, 3, 0, 0}} {
		a, b := slices.Clone(row), make([]int, 6)
		checkNewMemory(t, func() [][]int { return hexResults(t, a, b) }, a, b)
	}
}
