package tests

import (
	"math"
	"math/bits"
	"slices"
	"testing"

	"loop.example/golayoctads/impl"
)

// linesTold returns the lines for a base by the definition, in ascending order.
func linesTold(base int) []int {
	lines := []int{}
	for _, octad := range octadsOf(base, 0) {
		lines = append(lines, octad^base)
	}
	slices.Sort(lines)
	return lines
}

// throughTold returns the lines of a list that have all of some points.
func throughTold(lines []int, points int) []int {
	through := []int{}
	for _, line := range lines {
		if line&points == points {
			through = append(through, line)
		}
	}
	return through
}

// threeOnLine reports whether a line of a list has three of some points or more.
func threeOnLine(lines []int, points int) bool {
	return slices.ContainsFunc(lines, func(line int) bool { return bits.OnesCount(uint(line&points)) > 2 })
}

// arcTold reports whether a word has just so many points of a base, no three of them on a line.
func arcTold(base, w, count int) bool {
	return w >= 0 && w <= impl.WordMax && bits.OnesCount(uint(w)) == count && w&base == 0 && !threeOnLine(linesTold(base), w)
}

// ovalsTold returns what the octads leave that have just two places of a base, in ascending order.
func ovalsTold(base, pair int) []int {
	ovals := []int{}
	for _, octad := range octadsTold() {
		if octad&base == pair {
			ovals = append(ovals, octad^pair)
		}
	}
	slices.Sort(ovals)
	return ovals
}

// pairsIn returns the words of two places of a word.
func pairsIn(w int) []int {
	pairs, places := []int{}, placesOf(w)
	for i, p := range places {
		for _, q := range places[i+1:] {
			pairs = append(pairs, 1<<p|1<<q)
		}
	}
	return pairs
}

// furtherTold joins the common points of the lines through two of four points and through both others.
func furtherTold(base, four int) int {
	further, lines := 0, linesTold(base)
	for _, pair := range pairsIn(four) {
		further |= throughTold(lines, pair)[0] & throughTold(lines, four^pair)[0]
	}
	return further
}

// someBases has bases with the places 0 and 23, in one column and over several columns.
func someBases() []int {
	return []int{7, 14, 0x700000, 0xE00000, 0x800003, 0xC00001, 0x801001, 0x000111, 0x888000, 0x012400, 0x000031}
}

// fewBases has the ones of these that are gone through wholly.
func fewBases() []int {
	return []int{7, 0xE00000, 0x801001, 0x012400}
}

// noBases has numbers that are no words, words of other weights, and bases with a high bit besides or instead.
func noBases() []int {
	list := append(noWords(), 7|1<<24, 3|1<<24, 7|1<<32, 7|math.MinInt, -7, 0x1C00000, 0x3800000, 0, 1, 1<<23, 3, 15, 31, 255, 0xFFF, 0x800001)
	for n := range 25 {
		if n != 3 {
			list = append(list, 1<<n-1, impl.WordMax^(1<<(24-n)-1))
		}
	}
	return list
}

// noPoints has numbers that are no places, and the places of a base.
func noPoints(base int) []int {
	return append(badPlaces(), placesOf(base)...)
}

func mustLines(t *testing.T, base int) []int {
	t.Helper()
	lines, ok := impl.PlaneLines(base)
	if !ok {
		t.Fatalf("for the base %#x there are no lines", base)
	}
	return lines
}

func mustLine(t *testing.T, base, p, q int) int {
	t.Helper()
	line, ok := impl.PlaneLine(base, p, q)
	if !ok {
		t.Fatalf("for the base %#x there is no line through %d and %d", base, p, q)
	}
	return line
}

func mustOn(t *testing.T, base, p int) []int {
	t.Helper()
	lines, ok := impl.PlaneOn(base, p)
	if !ok {
		t.Fatalf("for the base %#x there are no lines through %d", base, p)
	}
	return lines
}

func mustOvals(t *testing.T, base, p, q int) []int {
	t.Helper()
	ovals, ok := impl.PlaneOvals(base, p, q)
	if !ok {
		t.Fatalf("for the base %#x there are no ovals with %d and %d", base, p, q)
	}
	return ovals
}

func TestPromise44Lines(t *testing.T) {
	for _, base := range wordsOfWeight(3) {
		lines := mustLines(t, base)
		if !slices.Equal(lines, linesTold(base)) || len(lines) != 21 {
			t.Fatalf("the lines for %#x are %#x, not %#x", base, lines, linesTold(base))
		}
		for i, a := range lines {
			if bits.OnesCount(uint(a)) != 5 || a&base != 0 || i > 0 && lines[i-1] >= a {
				t.Fatalf("among the lines for %#x is %#x at %d", base, a, i)
			}
			for _, b := range lines[i+1:] {
				if bits.OnesCount(uint(a&b)) != 1 {
					t.Fatalf("for %#x the lines %#x and %#x meet in %#x", base, a, b, a&b)
				}
			}
		}
	}
	for _, base := range noBases() {
		if lines, ok := impl.PlaneLines(base); ok || len(lines) != 0 {
			t.Errorf("the lines for %#x are %#x, %t", base, lines, ok)
		}
	}
}

// checkLine goes through both orders of two points.
func checkLine(t *testing.T, base int, lines []int, p, q int) {
	t.Helper()
	points := 1<<p | 1<<q
	line := mustLine(t, base, p, q)
	if want := throughTold(lines, points); len(want) != 1 || line != want[0] || line&points != points {
		t.Fatalf("for %#x the line through %d and %d is %#x, not %#x", base, p, q, line, want)
	}
	if other := mustLine(t, base, q, p); other != line {
		t.Fatalf("for %#x the line through %d and %d is %#x, and through both exchanged %#x", base, p, q, line, other)
	}
}

func TestPromise45Line(t *testing.T) {
	for _, base := range someBases() {
		points, lines := placesOf(impl.WordMax^base), mustLines(t, base)
		if !slices.Equal(lines, linesTold(base)) {
			t.Fatalf("the lines for %#x are %#x", base, lines)
		}
		for i, p := range points {
			for _, q := range points[i+1:] {
				checkLine(t, base, lines, p, q)
			}
		}
	}
	for i, base := range wordsOfWeight(3) {
		points := placesOf(impl.WordMax ^ base)
		checkLine(t, base, linesTold(base), points[i%21], points[(i+1+i/21%20)%21])
		checkLine(t, base, linesTold(base), points[0], points[20])
	}
}

func TestLineFails(t *testing.T) {
	for _, base := range fewBases() {
		points := placesOf(impl.WordMax ^ base)
		pairs := [][2]int{}
		for _, p := range points {
			pairs = append(pairs, [2]int{p, p}, [2]int{p, placesOf(base)[p%3]}, [2]int{placesOf(base)[p%3], p})
		}
		for _, bad := range noPoints(base) {
			pairs = append(pairs, [2]int{bad, points[0]}, [2]int{points[20], bad}, [2]int{bad, bad}, [2]int{bad, placesOf(base)[0]},
				[2]int{placesOf(base)[2], bad})
		}
		for _, pair := range pairs {
			if line, ok := impl.PlaneLine(base, pair[0], pair[1]); ok || line != 0 {
				t.Errorf("for %#x the line through %d and %d is %#x, %t", base, pair[0], pair[1], line, ok)
			}
		}
	}
	for _, base := range noBases() {
		for _, pair := range [][2]int{{3, 4}, {0, 23}, {10, 11}, {24, 25}} {
			if line, ok := impl.PlaneLine(base, pair[0], pair[1]); ok || line != 0 {
				t.Errorf("for %#x the line through %d and %d is %#x, %t", base, pair[0], pair[1], line, ok)
			}
		}
	}
}

func TestLinesToldOutright(t *testing.T) {
	cases := []struct{ base, p, q, line int }{
		{0x000007, 3, 4, 0x0000F8},
		{0x000007, 7, 3, 0x0000F8},
		{0x000007, 3, 23, 0xF00008},
		{0x000007, 20, 21, 0xF00008},
		{0x00000E, 0, 23, 0xF00001},
		{0x700000, 23, 0, 0x80000F},
		{0xE00000, 0, 1, 0x10000F},
		{0x800003, 2, 3, 0x70000C},
	}
	for _, c := range cases {
		if line := mustLine(t, c.base, c.p, c.q); line != c.line {
			t.Errorf("for %#x the line through %d and %d is %#x", c.base, c.p, c.q, line)
		}
	}
}

func TestPromise46Point(t *testing.T) {
	met := map[int]bool{}
	for n, base := range append(someBases(), wordsOfWeight(3)...) {
		lines := linesTold(base)
		for i, a := range lines {
			for k, b := range lines[i+1:] {
				if n >= len(someBases()) && (n+i*21+k)%53 != 0 {
					continue
				}
				p, ok := impl.PlanePoint(base, a, b)
				if !ok || p < 0 || p > 23 || 1<<p != a&b {
					t.Fatalf("for %#x the lines %#x and %#x meet in %d, %t", base, a, b, p, ok)
				}
				if q, ok := impl.PlanePoint(base, b, a); !ok || q != p {
					t.Fatalf("for %#x the lines %#x and %#x meet in %d, and both exchanged in %d, %t", base, a, b, p, q, ok)
				}
				met[p] = true
			}
		}
	}
	if len(met) != 24 {
		t.Errorf("lines meet in %v", met)
	}
}

// noLines has numbers that are no words, words of five points and of other weights, and words with places of the base, for a base.
func noLines(base int) []int {
	lines := linesTold(base)
	list := append(noWords(), 0, impl.WordMax, base, impl.WordMax^base)
	for i, line := range lines {
		places := placesOf(line)
		other := (impl.WordMax ^ base ^ line) & -(impl.WordMax ^ base ^ line) // the least point that is not on it
		first := 1 << placesOf(base)[i%3]
		list = append(list, line|base, line|first, line^1<<places[i%5], line|other, line^1<<places[i%5]|other, line^1<<places[i%5]|first,
			line|1<<24, line|1<<32, line|math.MinInt, -line, line^lines[(i+1)%21])
	}
	for _, w := range wordsOfWeight(3)[:60] {
		for _, line := range []int{linesTold(w)[3], linesTold(w)[20]} {
			if !slices.Contains(lines, line) {
				list = append(list, line)
			}
		}
	}
	return list
}

func checkNoPoint(t *testing.T, base, a, b int) {
	t.Helper()
	if p, ok := impl.PlanePoint(base, a, b); ok || p != 0 {
		t.Errorf("for %#x the lines %#x and %#x meet in %d, %t", base, a, b, p, ok)
	}
}

func TestPointFails(t *testing.T) {
	for _, base := range fewBases() {
		lines, wrong := linesTold(base), noLines(base)
		for _, line := range lines {
			checkNoPoint(t, base, line, line)
		}
		for i, bad := range wrong {
			if slices.Contains(lines, bad) {
				t.Fatalf("%#x is a line for %#x", bad, base)
			}
			checkNoPoint(t, base, bad, lines[i%21])
			checkNoPoint(t, base, lines[i%21], bad)
			checkNoPoint(t, base, bad, bad)
			checkNoPoint(t, base, bad, wrong[5])
		}
	}
	for _, base := range noBases() {
		checkNoPoint(t, base, 0x0000F8, 0xF00008)
		checkNoPoint(t, base, linesTold(7)[5], linesTold(7)[9])
		checkNoPoint(t, base, 0, 1)
	}
	checkNoPoint(t, 14, 0x0000F8, 0xF00008)
}

func checkOn(t *testing.T, base, p int) {
	t.Helper()
	lines, joined := mustOn(t, base, p), 0
	if want := throughTold(linesTold(base), 1<<p); !slices.Equal(lines, want) || len(lines) != 5 {
		t.Fatalf("for %#x the lines through %d are %#x, not %#x", base, p, lines, want)
	}
	for i, line := range lines {
		if line&(1<<p) == 0 || i > 0 && lines[i-1] >= line {
			t.Fatalf("for %#x the lines through %d are %#x", base, p, lines)
		}
		joined |= line
	}
	if joined != impl.WordMax^base {
		t.Fatalf("for %#x the lines through %d have the points %#x", base, p, joined)
	}
}

func TestPromise47On(t *testing.T) {
	for i, base := range wordsOfWeight(3) {
		points := placesOf(impl.WordMax ^ base)
		checkOn(t, base, points[i%21])
		checkOn(t, base, points[0])
		checkOn(t, base, points[20])
	}
	for _, base := range someBases() {
		for _, p := range placesOf(impl.WordMax ^ base) {
			checkOn(t, base, p)
		}
		for _, p := range noPoints(base) {
			if lines, ok := impl.PlaneOn(base, p); ok || len(lines) != 0 {
				t.Errorf("for %#x the lines through %d are %#x, %t", base, p, lines, ok)
			}
		}
	}
	for _, base := range noBases() {
		for _, p := range []int{0, 3, 23, 24} {
			if lines, ok := impl.PlaneOn(base, p); ok || len(lines) != 0 {
				t.Errorf("for %#x the lines through %d are %#x, %t", base, p, lines, ok)
			}
		}
	}
}

func checkOval(t *testing.T, base, w int, want bool) {
	t.Helper()
	if is := impl.PlaneOval(base, w); is != want {
		t.Fatalf("that %#x is an oval for %#x is %t", w, base, is)
	}
}

func TestPromise48Oval(t *testing.T) {
	for _, base := range someBases() {
		points, lines, count := placesOf(impl.WordMax^base), linesTold(base), 0
		for _, pair := range pairsIn(base) {
			for _, w := range ovalsTold(base, pair) {
				checkOval(t, base, w, true)
				for _, line := range lines {
					if n := bits.OnesCount(uint(line & w)); n != 0 && n != 2 {
						t.Fatalf("for %#x the line %#x has %d points of %#x", base, line, n, w)
					}
				}
				moved := w ^ 1<<placesOf(w)[count%6] | 1<<points[count%21]
				checkOval(t, base, moved, arcTold(base, moved, 6))
				count++
			}
		}
		if count != 168 {
			t.Fatalf("for %#x there are %d ovals", base, count)
		}
	}
}

// TestOvalsAmongSixes has, for one base, each fifth word of six points.
func TestOvalsAmongSixes(t *testing.T) {
	base, count := 0x801001, map[bool]int{}
	lines := linesTold(base)
	for i, w := range wordsOfWeight(6) {
		if i%5 == 0 && w&base == 0 {
			want := !threeOnLine(lines, w)
			checkOval(t, base, w, want)
			count[want]++
		}
	}
	if count[true] < 20 || count[false] < 5000 {
		t.Errorf("there are ovals and others: %v", count)
	}
}

func TestOvalToldOutright(t *testing.T) {
	cases := []struct {
		base, w int
		want    bool
	}{
		{0x000013, 0x000F0C, true},
		{0x000007, 0x000F0C, false}, // such six places with the place 2 of the base
		{0x000007, 0x666600, false}, // an octad
		{0x000007, 0x0001F8, false}, // a line and another point
		{0x000007, 0x0000F8, false}, // a line
		{0x800003, 0x0000FC, true},
		{0x800081, 0x00007E, true},
		{0x800081, 0x00003E, false}, // five points of an oval
		{0x800081, 0x00017E, false}, // an oval and another point
		{0x800081, 0x00013E, false}, // an oval with a wrong point
		{0x800081, 0x0000FE, false}, // an oval and a place of the base
		{0x800081, 0x0000BE, false}, // five points of an oval and a place of the base
	}
	for _, c := range cases {
		checkOval(t, c.base, c.w, c.want)
	}
}

func TestOvalFails(t *testing.T) {
	for _, base := range fewBases() {
		oval := ovalsTold(base, base&(base-1))[17]
		words := append(noWords(), noLines(base)...)
		words = append(words, oval|1<<24, oval|1<<32, oval|math.MinInt, -oval, impl.WordMax^oval)
		for n := range 24 {
			w := oval ^ 1<<n
			words = append(words, w, w|base, w^1<<placesOf(base)[n%3])
		}
		for _, octad := range octadsTold()[:200] {
			words = append(words, octad, octad&^base, octad&^3)
		}
		for _, w := range words {
			checkOval(t, base, w, arcTold(base, w, 6))
		}
	}
	for _, base := range noBases() {
		for _, w := range []int{0x0000FC, 0x00007E, ovalsTold(7, 3)[0], 0, -1} {
			checkOval(t, base, w, false)
		}
	}
}

func checkOvals(t *testing.T, base, p, q int) {
	t.Helper()
	pair := 1<<p | 1<<q
	ovals := mustOvals(t, base, p, q)
	if want := ovalsTold(base, pair); !slices.Equal(ovals, want) || len(ovals) != 56 {
		t.Fatalf("for %#x the ovals with %d and %d are %#x, not %#x", base, p, q, ovals, want)
	}
	for i, w := range ovals {
		if i > 0 && ovals[i-1] >= w || !impl.OctadIn(w|pair) {
			t.Fatalf("for %#x among the ovals with %d and %d is %#x at %d", base, p, q, w, i)
		}
	}
	checkOval(t, base, ovals[0], true)
	checkOval(t, base, ovals[55], true)
}

func TestPromise49Ovals(t *testing.T) {
	for i, base := range wordsOfWeight(3) {
		places := placesOf(base)
		checkOvals(t, base, places[i%3], places[(i+1)%3])
	}
	for _, base := range someBases() {
		for _, p := range placesOf(base) {
			for _, q := range placesOf(base) {
				if p != q {
					checkOvals(t, base, p, q)
				}
			}
		}
	}
}

func TestOvalsToldOutright(t *testing.T) {
	ovals := mustOvals(t, 0x800003, 0, 1)
	if ovals[0] != 0x0000FC || slices.Contains(ovals, 0x70000C) {
		t.Errorf("the ovals are %#x", ovals)
	}
	if others := mustOvals(t, 0x800003, 23, 1); slices.Contains(others, 0x0000FC) || slices.Equal(others, mustOvals(t, 0x800003, 23, 0)) {
		t.Errorf("the other ovals are %#x", others)
	}
}

func TestOvalsFail(t *testing.T) {
	for _, base := range someBases() {
		places, points := placesOf(base), placesOf(impl.WordMax^base)
		pairs := [][2]int{{places[0], places[0]}, {places[1], places[1]}, {places[2], places[2]}}
		for i, bad := range append(badPlaces(), points...) {
			pairs = append(pairs, [2]int{bad, places[0]}, [2]int{places[1], bad}, [2]int{bad, places[2]}, [2]int{bad, bad}, [2]int{bad, points[i%21]})
		}
		for _, pair := range pairs {
			if ovals, ok := impl.PlaneOvals(base, pair[0], pair[1]); ok || len(ovals) != 0 {
				t.Errorf("for %#x the ovals with %d and %d are %#x, %t", base, pair[0], pair[1], ovals, ok)
			}
		}
	}
	for _, base := range noBases() {
		for _, pair := range [][2]int{{0, 1}, {1, 2}, {0, 23}, {22, 23}, {0, 24}} {
			if ovals, ok := impl.PlaneOvals(base, pair[0], pair[1]); ok || len(ovals) != 0 {
				t.Errorf("for %#x the ovals with %d and %d are %#x, %t", base, pair[0], pair[1], ovals, ok)
			}
		}
	}
}

// foursOf returns some words of four points for a base, among which no three or just three or all are on a line.
func foursOf(base int, step int) []int {
	fours := []int{}
	for i, w := range tetradsTold() {
		if i%step == 0 && w&base == 0 {
			fours = append(fours, w)
		}
	}
	return fours
}

// checkFour has PlaneFour and PlaneSub of four points, and tells whether there are such.
func checkFour(t *testing.T, base int, lines []int, w int) bool {
	t.Helper()
	further, ok := impl.PlaneFour(base, w)
	sub, okSub := impl.PlaneSub(base, w)
	if threeOnLine(lines, w) {
		if ok || further != 0 || okSub || sub != 0 {
			t.Fatalf("for %#x the further points of %#x are %#x, %t, and with them %#x, %t", base, w, further, ok, sub, okSub)
		}
		return false
	}
	if want := furtherTold(base, w); !ok || further != want || !okSub || sub != want|w {
		t.Fatalf("for %#x the further points of %#x are %#x, %t, and with them %#x, %t, not %#x", base, w, further, ok, sub, okSub, want)
	}
	return true
}

func TestPromise50Four(t *testing.T) {
	for _, base := range fewBases() {
		lines, count := linesTold(base), map[bool]int{}
		for _, w := range foursOf(base, 3) {
			is := checkFour(t, base, lines, w)
			count[is]++
			if !is {
				continue
			}
			further, _ := impl.PlaneFour(base, w)
			if bits.OnesCount(uint(further)) != 3 || further&w != 0 || further&base != 0 || len(throughTold(lines, further)) != 1 {
				t.Fatalf("for %#x the further points of %#x are %#x", base, w, further)
			}
		}
		if count[true] < 500 || count[false] < 500 {
			t.Errorf("for %#x there are fours and others: %v", base, count)
		}
	}
}

func TestPromise51Sub(t *testing.T) {
	for n, base := range someBases() {
		lines := mustLines(t, base)
		for _, w := range foursOf(base, 31+n) {
			if !checkFour(t, base, linesTold(base), w) {
				continue
			}
			further, _ := impl.PlaneFour(base, w)
			sub, _ := impl.PlaneSub(base, w)
			if bits.OnesCount(uint(sub)) != 7 || sub != w|further {
				t.Fatalf("for %#x the plane of %#x is %#x", base, w, sub)
			}
			meets := map[int]int{}
			for _, line := range lines {
				meets[bits.OnesCount(uint(line&sub))]++
			}
			if len(lines) != 21 || meets[0]+meets[1]+meets[3] != 21 || meets[3] != 7 {
				t.Fatalf("for %#x lines have %v points of the plane %#x of %#x", base, meets, sub, w)
			}
		}
	}
}

// TestFourOverAllBases has a four of points and one with three on a line for each base.
func TestFourOverAllBases(t *testing.T) {
	for i, base := range wordsOfWeight(3) {
		lines := linesTold(base)
		oval := placesOf(ovalsTold(base, base&(base-1))[i%56])
		four, _ := impl.WordOf(oval[i%3 : i%3+4])
		if !checkFour(t, base, lines, four) {
			t.Fatalf("for %#x four points of the oval %v fail", base, oval)
		}
		line := placesOf(lines[i%21])
		onLine, _ := impl.WordOf(line[i%2 : i%2+4])
		three, _ := impl.WordOf(line[i%3 : i%3+3])
		other := (impl.WordMax ^ base ^ lines[i%21]) & -(impl.WordMax ^ base ^ lines[i%21])
		if checkFour(t, base, lines, onLine) || checkFour(t, base, lines, three|other) {
			t.Fatalf("for %#x points of the line %v don't fail", base, line)
		}
	}
}

func TestFourToldOutright(t *testing.T) {
	cases := []struct{ base, four, further int }{
		{0x800003, 0x00000C, 0},
		{0x800003, 0x70000C, 0},        // a line
		{0x800003, 0x30000C, 0},        // four points of it
		{0x800003, 0x30001C, 0},        // four and another one
		{0x800003, 0x10001C, 0},        // three points of it and another one
		{0x800003, 0x00003C, 0x430000}, // 22 is on the line 0x70000C
		{0x000007, 0x000330, 0x00C008}, // 3 is on the lines 0x0000F8 and 0x000F08
		{0x800003, 0x00000F, 0},        // places of the base
		{0x800003, 0x80001C, 0},
	}
	for _, c := range cases {
		further, ok := impl.PlaneFour(c.base, c.four)
		sub, okSub := impl.PlaneSub(c.base, c.four)
		if want := c.further != 0; ok != want || okSub != want || further != c.further || want && sub != c.four|c.further || !want && sub != 0 {
			t.Errorf("for %#x the further points of %#x are %#x, %t, and with them %#x, %t", c.base, c.four, further, ok, sub, okSub)
		}
	}
}

func checkNoFour(t *testing.T, base, w int) {
	t.Helper()
	if further, ok := impl.PlaneFour(base, w); ok || further != 0 {
		t.Errorf("for %#x the further points of %#x are %#x, %t", base, w, further, ok)
	}
	if sub, ok := impl.PlaneSub(base, w); ok || sub != 0 {
		t.Errorf("for %#x the plane of %#x is %#x, %t", base, w, sub, ok)
	}
}

func TestFourFails(t *testing.T) {
	for _, base := range fewBases() {
		oval := ovalsTold(base, base&(base-1))[30]
		words := append(noLines(base), oval, 0, 1, 3, base, impl.WordMax, impl.WordMax^base)
		for _, pair := range pairsIn(oval) {
			four := oval ^ pair
			words = append(words, four|1<<24, four|1<<32, four|math.MinInt, -four, four|pair&-pair, impl.WordMax^four)
			for _, p := range placesOf(four) {
				three := four ^ 1<<p
				words = append(words, three, three|1<<24)
				for _, b := range placesOf(base) {
					words = append(words, three|1<<b, four|1<<b)
				}
			}
		}
		for _, w := range words {
			if !arcTold(base, w, 4) {
				checkNoFour(t, base, w)
			}
		}
	}
	for _, base := range noBases() {
		for _, w := range []int{0x3C, 0x78, 0x780, ovalsTold(7, 3)[20] & 0xFFF000, 0, -1} {
			checkNoFour(t, base, w)
		}
	}
}

// planeResults runs each function of the planes that returns a list.
func planeResults(t *testing.T) [][]int {
	t.Helper()
	return [][]int{mustLines(t, 7), mustLines(t, 0xE00000), mustOn(t, 7, 3), mustOn(t, 7, 23), mustOn(t, 0xE00000, 0),
		mustOvals(t, 7, 0, 1), mustOvals(t, 7, 1, 2), mustOvals(t, 0xE00000, 23, 21)}
}

func TestPlaneResultsAreNewMemory(t *testing.T) {
	checkNewMemory(t, func() [][]int { return planeResults(t) })
}
