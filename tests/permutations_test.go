package tests

import (
	"math/bits"
	"slices"
	"sync"
	"testing"

	"loop.example/golayoctads/impl"
)

// The orders that a permutation can have that keeps the code.
var keepingOrders = []int{1, 2, 3, 4, 5, 6, 7, 8, 10, 11, 12, 14, 15, 21, 23}

// The number of permutations that keep the code.
const keeperCount = 24 * 23 * 22 * 21 * 20 * 48

// unmoved is the permutation that moves nothing.
func unmoved() []int {
	return placesOf(impl.WordMax)
}

// around moves all places in one cycle.
func around() []int {
	return append(unmoved()[1:], 0)
}

// exchanged is a permutation with two of its numbers exchanged.
func exchanged(p []int, i, k int) []int {
	q := slices.Clone(p)
	q[i], q[k] = q[k], q[i]
	return q
}

// mixed is one of many permutations that are spread over all.
func mixed(n int) []int {
	p, state := unmoved(), uint32(n*oddStep+77)
	for i := 23; i > 0; i-- {
		state = state*1664525 + 1013904223
		p = exchanged(p, i, int(state>>8)%(i+1))
	}
	return p
}

// withCycles has cycles of these lengths and no others, each over places that are not beside each other.
func withCycles(lengths ...int) []int {
	p, start := unmoved(), 0
	for _, length := range lengths {
		for i := range length {
			p[(start+i)*7%24] = (start + (i+1)%length) * 7 % 24
		}
		start += length
	}
	return p
}

// cycleLengths has lengths with and without common factors, most of them with the sum 24.
func cycleLengths() [][]int {
	return [][]int{{1}, {2}, {3}, {24}, {23}, {22, 2}, {12, 12}, {2, 3}, {3, 5, 7, 8}, {4, 6}, {6, 4, 10, 4}, {6, 9, 9}, {2, 4, 8}, {11, 13},
		{5, 19}, {5, 6, 7}, {9, 7, 5, 2}, {5, 4, 3, 2}, {2, 2}, slices.Repeat([]int{2}, 12), slices.Repeat([]int{3}, 8),
		slices.Repeat([]int{4}, 6), slices.Repeat([]int{6}, 4), slices.Repeat([]int{8}, 3)}
}

func sumOf(list []int) int {
	sum := 0
	for _, n := range list {
		sum += n
	}
	return sum
}

// within moves each place in its column, to the row that a function tells.
func within(to func(row, column int) int) []int {
	p := make([]int, 24)
	for i := range p {
		p[i] = i/4*4 + to(i%4, i/4)
	}
	return p
}

func hexPermTold(row []int) []int {
	return within(func(r, column int) int { return r ^ row[column] })
}

func scalePermTold(n int) []int {
	return within(func(r, _ int) int { return timesTold(r, n) })
}

func timesPermTold(p, q []int) []int {
	r := make([]int, 24)
	for i := range r {
		r[i] = q[p[i]]
	}
	return r
}

func turnedTold(p []int) []int {
	back := make([]int, 24)
	for i := range back {
		back[i] = slices.Index(p, i)
	}
	return back
}

func movedTold(p []int, w int) int {
	moved := 0
	for _, place := range placesOf(w) {
		moved |= 1 << p[place]
	}
	return moved
}

func fixedTold(p []int) int {
	fixed := 0
	for i := range p {
		if p[i] == i {
			fixed |= 1 << i
		}
	}
	return fixed
}

// cyclesTold has, for each place, how often it is moved to be back, and each length as often as it has cycles.
func cyclesTold(p []int) []int {
	count := make([]int, 25)
	for i := range p {
		length := 1
		for place := p[i]; place != i; place = p[place] {
			length++
		}
		count[length]++
	}
	lengths := []int{}
	for length := 1; length < 25; length++ {
		lengths = append(lengths, slices.Repeat([]int{length}, count[length]/length)...)
	}
	return lengths
}

// orderTold does a permutation until nothing is moved.
func orderTold(p []int) int {
	n := 1
	for done := p; !slices.Equal(done, unmoved()); done = timesPermTold(done, p) {
		n++
	}
	return n
}

// inCode has the words of the code.
var inCode = sync.OnceValue(func() map[int]bool {
	in := map[int]bool{}
	for _, w := range codeTold() {
		in[w] = true
	}
	return in
})

// keepsTold moves all words of the code.
func keepsTold(p []int) bool {
	for _, w := range codeTold() {
		if !inCode()[movedTold(p, w)] {
			return false
		}
	}
	return true
}

// keeperHead tells where the n-th permutation that keeps the code moves the places 0 to 5 and 8: the first five of them
// anywhere, the next one into the octad through these, and the last one out of it.
func keeperHead(n int) map[int]int {
	head, used := map[int]int{}, 0
	take := func(place, free int) {
		places := placesOf(free &^ used)
		head[place] = places[n%len(places)]
		n /= len(places)
		used |= 1 << head[place]
	}
	for place := range 5 {
		take(place, impl.WordMax)
	}
	octad := octadsOf(used, 0)[0]
	take(5, octad)
	take(8, impl.WordMax^octad)
	return head
}

// keeper returns the n-th permutation that keeps the code: an octad of which five places are known to move somewhere is
// moved to the octad through these, its places into it, and the others out of it.
func keeper(n int) []int {
	p, known := slices.Repeat([]int{impl.WordMax}, 24), 0
	for place, to := range keeperHead(n) {
		p[place] = 1 << to
		known |= 1 << place
	}
	for known != impl.WordMax {
		for _, octad := range octadsTold() {
			if bits.OnesCount(uint(octad&known)) < 5 || octad&^known == 0 {
				continue
			}
			image := 0
			for _, place := range placesOf(octad & known) {
				image |= p[place]
			}
			image = octadsOf(image, 0)[0]
			for place := range p {
				if octad>>place&1 == 1 {
					p[place] &= image
				} else {
					p[place] &^= image
				}
			}
		}
		for place := range p {
			if bits.OnesCount(uint(p[place])) == 1 {
				known |= 1 << place
			}
		}
	}
	for place := range p {
		p[place] = bits.TrailingZeros(uint(p[place]))
	}
	return p
}

// keepers has permutations that keep the code: some that are spread over all, those that don't move the places 0 to 4,
// and others that don't move five places or more.
var keepers = sync.OnceValue(func() [][]int {
	list := [][]int{unmoved(), scalePermTold(2), scalePermTold(3)}
	for _, row := range hexacodeTold() {
		list = append(list, hexPermTold(row))
	}
	for i := range 150 {
		list = append(list, keeper(i*oddStep*13%keeperCount))
	}
	for i := range 48 {
		p, q := keeper(i*(keeperCount/48)), keeper(i*oddStep*29%keeperCount)
		list = append(list, p, timesPermTold(timesPermTold(turnedTold(q), p), q))
	}
	return list
})

// somePerms has permutations of all kinds: some keep the code, some nearly do, and others are far from it.
var somePerms = sync.OnceValue(func() [][]int {
	list := [][]int{unmoved(), around(), turnedTold(around()), exchanged(unmoved(), 0, 1), exchanged(unmoved(), 0, 23),
		exchanged(unmoved(), 22, 23), exchanged(unmoved(), 5, 17)}
	for _, lengths := range cycleLengths() {
		list = append(list, withCycles(lengths...))
	}
	for i := range 60 {
		list = append(list, mixed(i))
	}
	for i, p := range keepers() {
		if i%5 < 2 {
			list = append(list, p)
		}
		if i%5 == 2 {
			list = append(list, exchanged(p, i%24, (i+1+i/24)%24))
		}
	}
	return list
})

// noPerms has lists with fewer or more than 24 numbers, with a number that is no place, and with one twice.
func noPerms() [][]int {
	lists := [][]int{nil, {}, make([]int, 24), make([]int, 0, 24), slices.Concat(around(), around()), append(around(), 24),
		append(mixed(1), mixed(1)[23]), mixed(2)[:23], mixed(2)[1:], append([]int{-1}, unmoved()...)}
	for n := range 60 {
		if n != 24 {
			lists = append(lists, longPlaces(n), slices.Repeat([]int{n}, 24), make([]int, n))
		}
	}
	for i, p := range [][]int{unmoved(), around(), mixed(3), scalePermTold(2)} {
		for k := range p {
			for _, bad := range append(badPlaces(), p[(k+i+1)%24], p[(k+23)%24], p[k]+24, p[k]-24, p[k]|1<<32) {
				list := slices.Clone(p)
				list[k] = bad
				lists = append(lists, list)
			}
		}
	}
	return append(lists, wrongLists(24)...)
}

func mustTimes(t *testing.T, p, q []int) []int {
	t.Helper()
	r, ok := impl.PermTimes(p, q)
	if !ok || len(r) != 24 {
		t.Fatalf("%v and then %v is %v, %t", p, q, r, ok)
	}
	return r
}

func mustTurned(t *testing.T, p []int) []int {
	t.Helper()
	back, ok := impl.PermTurned(p)
	if !ok || len(back) != 24 {
		t.Fatalf("%v turned is %v, %t", p, back, ok)
	}
	return back
}

func mustMoved(t *testing.T, p []int, w int) int {
	t.Helper()
	moved, ok := impl.PermWord(p, w)
	if !ok {
		t.Fatalf("%v doesn't move %#x", p, w)
	}
	return moved
}

func mustCycles(t *testing.T, p []int) []int {
	t.Helper()
	lengths, ok := impl.PermCycles(p)
	if !ok {
		t.Fatalf("%v has no cycles", p)
	}
	return lengths
}

func mustPermOrder(t *testing.T, p []int) int {
	t.Helper()
	n, ok := impl.PermOrder(p)
	if !ok {
		t.Fatalf("%v has no order", p)
	}
	return n
}

func mustFixed(t *testing.T, p []int) int {
	t.Helper()
	w, ok := impl.PermFixed(p)
	if !ok {
		t.Fatalf("%v has no word of what isn't moved", p)
	}
	return w
}

func mustPermHex(t *testing.T, row []int) []int {
	t.Helper()
	p, ok := impl.PermHex(row)
	if !ok || len(p) != 24 {
		t.Fatalf("of the row %v is made %v, %t", row, p, ok)
	}
	return p
}

func mustPermScale(t *testing.T, n int) []int {
	t.Helper()
	p, ok := impl.PermScale(n)
	if !ok || len(p) != 24 {
		t.Fatalf("of the digit %d is made %v, %t", n, p, ok)
	}
	return p
}

func checkPerm(t *testing.T, what string, p, want []int) {
	t.Helper()
	if !slices.Equal(p, want) {
		t.Fatalf("%s is %v, not %v", what, p, want)
	}
}

// TestKeepersKeep guards the tests below: the permutations told keep the code, and are of all orders that there are.
func TestKeepersKeep(t *testing.T) {
	orders := map[int]bool{}
	for i, p := range keepers() {
		if !keepsTold(p) {
			t.Fatalf("the permutation %d, %v, doesn't keep the code", i, p)
		}
		orders[orderTold(p)] = true
	}
	for _, n := range keepingOrders {
		if !orders[n] {
			t.Errorf("no permutation that keeps the code has the order %d", n)
		}
	}
	if len(orders) != len(keepingOrders) {
		t.Errorf("the orders are %v", orders)
	}
}

func TestPromise52Valid(t *testing.T) {
	for _, p := range append(somePerms(), keepers()...) {
		if !impl.PermValid(p) {
			t.Fatalf("%v is no permutation", p)
		}
		if w := mustMoved(t, p, impl.WordMax); w != impl.WordMax {
			t.Fatalf("%v moves all places to %#x", p, w)
		}
		checkPerm(t, "there and back", mustTimes(t, p, mustTurned(t, p)), unmoved())
		checkPerm(t, "back and there", mustTimes(t, mustTurned(t, p), p), unmoved())
	}
	for _, p := range noPerms() {
		if impl.PermValid(p) {
			t.Errorf("%v is a permutation", p)
		}
	}
}

// The word of promise 53.
const fixedWord = 4321

func checkTimes(t *testing.T, p, q []int) {
	t.Helper()
	r := mustTimes(t, p, q)
	checkPerm(t, "one and then another one", r, timesPermTold(p, q))
	if w := mustMoved(t, r, fixedWord); w != mustMoved(t, q, mustMoved(t, p, fixedWord)) || w != movedTold(q, movedTold(p, fixedWord)) {
		t.Fatalf("%v and then %v moves %d to %#x", p, q, fixedWord, w)
	}
	if impl.PermKeeps(p) && impl.PermKeeps(q) && !impl.PermKeeps(r) {
		t.Fatalf("%v and %v keep the code, but not %v", p, q, r)
	}
}

func TestPromise53Times(t *testing.T) {
	list := somePerms()
	for i, p := range list {
		checkTimes(t, p, p)
		checkTimes(t, p, unmoved())
		checkTimes(t, unmoved(), p)
		for _, step := range []int{1, 7, 40} {
			checkTimes(t, p, list[(i+step)%len(list)])
		}
	}
	kept := 0
	for i, p := range keepers() {
		q := keepers()[(i*31+5)%len(keepers())]
		checkTimes(t, p, q)
		if impl.PermKeeps(p) && impl.PermKeeps(q) {
			kept++
		}
	}
	if kept != len(keepers()) {
		t.Errorf("only %d of %d pairs keep the code", kept, len(keepers()))
	}
	checkPerm(t, "an exchange ahead of a cycle", mustTimes(t, exchanged(unmoved(), 0, 1), around())[:4], []int{2, 1, 3, 4})
	checkPerm(t, "a cycle ahead of an exchange", mustTimes(t, around(), exchanged(unmoved(), 0, 1))[:4], []int{0, 2, 3, 4})
}

func TestTimesFails(t *testing.T) {
	bad := noPerms()
	for i, p := range bad {
		for _, pair := range [][2][]int{{p, unmoved()}, {around(), p}, {p, mixed(i)}, {mixed(i), p}, {p, p}, {p, bad[i/2]}} {
			if r, ok := impl.PermTimes(pair[0], pair[1]); ok || len(r) != 0 {
				t.Fatalf("%v and then %v is %v, %t", pair[0], pair[1], r, ok)
			}
		}
	}
}

func TestPromise54Turned(t *testing.T) {
	kept := map[bool]int{}
	for _, p := range append(somePerms(), keepers()...) {
		back := mustTurned(t, p)
		checkPerm(t, "the permutation turned", back, turnedTold(p))
		checkPerm(t, "the permutation turned twice", mustTurned(t, back), p)
		checkPerm(t, "the list of cycles of the permutation turned", mustCycles(t, back), mustCycles(t, p))
		if impl.PermKeeps(back) != impl.PermKeeps(p) {
			t.Fatalf("that the code is kept is %t for %v and %t for %v", impl.PermKeeps(p), p, impl.PermKeeps(back), back)
		}
		kept[impl.PermKeeps(p)]++
		twice := mustTimes(t, p, p)
		checkPerm(t, "what is done twice and turned", mustTurned(t, twice), mustTimes(t, back, back))
		for _, place := range []int{0, 5, 23} {
			if back[p[place]] != place || p[back[place]] != place {
				t.Fatalf("%v doesn't lead %d back", back, place)
			}
		}
	}
	if kept[true] < 100 || kept[false] < 100 {
		t.Errorf("that the code is kept is %v", kept)
	}
	checkPerm(t, "the cycle turned", mustTurned(t, around()), append([]int{23}, unmoved()[:23]...))
	for _, p := range noPerms() {
		if back, ok := impl.PermTurned(p); ok || len(back) != 0 {
			t.Errorf("%v turned is %v, %t", p, back, ok)
		}
	}
}

func TestPromise55Word(t *testing.T) {
	words := append(someWords(), codeTold()[64], codeTold()[100])
	for _, p := range somePerms() {
		back := mustTurned(t, p)
		for _, w := range words {
			moved := mustMoved(t, p, w)
			if moved != movedTold(p, w) || impl.WordWeight(moved) != impl.WordWeight(w) || mustMoved(t, back, moved) != w {
				t.Fatalf("%v moves %#x to %#x", p, w, moved)
			}
		}
		if w := mustMoved(t, p, 0); w != 0 {
			t.Fatalf("%v moves 0 to %#x", p, w)
		}
	}
	for _, p := range keepers() {
		for m := range impl.Messages {
			if w := codeTold()[m]; m%9 == 4 && impl.PermKeeps(p) && !impl.CodeIn(mustMoved(t, p, w)) {
				t.Fatalf("%v moves %#x out of the code", p, w)
			}
		}
	}
}

func TestWordsMovedOutright(t *testing.T) {
	cases := []struct {
		p    []int
		w, v int
	}{
		{around(), 1, 2},
		{around(), 0x800000, 1},
		{around(), 0xC00005, 0x80000B},
		{exchanged(unmoved(), 0, 23), 1, 0x800000},
		{exchanged(unmoved(), 0, 23), 0x800001, 0x800001},
		{exchanged(unmoved(), 0, 23), 0x800006, 7},
		{withCycles(3), 0x000001, 0x000080}, // 0 to 7, 7 to 14, 14 to 0
		{withCycles(3), 0x004080, 0x004001},
	}
	for _, c := range cases {
		if v := mustMoved(t, c.p, c.w); v != c.v {
			t.Errorf("%v moves %#x to %#x, not %#x", c.p, c.w, v, c.v)
		}
	}
}

func TestMovedFails(t *testing.T) {
	check := func(p []int, w int) {
		if moved, ok := impl.PermWord(p, w); ok || moved != 0 {
			t.Fatalf("%v moves %#x to %#x, %t", p, w, moved, ok)
		}
	}
	for i, p := range noPerms() {
		for _, w := range []int{0, 1, 255, impl.WordMax, noWords()[i%len(noWords())]} {
			check(p, w)
		}
	}
	for _, p := range somePerms() {
		for _, w := range noWords() {
			check(p, w)
		}
	}
}

func TestPromise56Cycles(t *testing.T) {
	for _, p := range append(somePerms(), keepers()...) {
		lengths := mustCycles(t, p)
		ones := 0
		for i, length := range lengths {
			if i > 0 && length < lengths[i-1] {
				t.Fatalf("%v has the cycles %v", p, lengths)
			}
			if length == 1 {
				ones++
			}
		}
		if sumOf(lengths) != 24 || ones != impl.WordWeight(mustFixed(t, p)) || !slices.Equal(lengths, cyclesTold(p)) {
			t.Fatalf("%v has the cycles %v, not %v", p, lengths, cyclesTold(p))
		}
	}
	for _, told := range cycleLengths() {
		want := slices.Clone(told)
		for rest := 24 - sumOf(told); rest > 0; rest-- {
			want = append(want, 1)
		}
		slices.Sort(want)
		checkPerm(t, "the list of cycles", mustCycles(t, withCycles(told...)), want)
	}
	checkPerm(t, "the list of cycles of the cycle", mustCycles(t, around()), []int{24})
	checkPerm(t, "the list of cycles of an exchange", mustCycles(t, exchanged(unmoved(), 3, 20)), append(slices.Repeat([]int{1}, 22), 2))
	for _, p := range noPerms() {
		if lengths, ok := impl.PermCycles(p); ok || len(lengths) != 0 {
			t.Errorf("%v has the cycles %v, %t", p, lengths, ok)
		}
	}
}

func TestPromise57Order(t *testing.T) {
	for _, p := range append(somePerms(), keepers()...) {
		n := mustPermOrder(t, p)
		if n != orderTold(p) {
			t.Fatalf("the order of %v is %d, not %d", p, n, orderTold(p))
		}
		for _, length := range mustCycles(t, p) {
			if n < 1 || n%length != 0 {
				t.Fatalf("the order of %v with the cycles %v is %d", p, mustCycles(t, p), n)
			}
		}
		if impl.PermKeeps(p) && !slices.Contains(keepingOrders, n) {
			t.Fatalf("the order of %v, which keeps the code, is %d", p, n)
		}
	}
	for _, p := range noPerms() {
		if n, ok := impl.PermOrder(p); ok || n != 0 {
			t.Errorf("the order of %v is %d, %t", p, n, ok)
		}
	}
}

func TestOrdersOutright(t *testing.T) {
	cases := []struct {
		order   int
		lengths []int
	}{
		{1, []int{1}}, {2, []int{2}}, {24, []int{24}}, {23, []int{23}}, {22, []int{22, 2}}, {6, []int{2, 3}}, {12, []int{4, 6}},
		{60, []int{6, 4, 10, 4}}, {18, []int{6, 9, 9}}, {8, []int{2, 4, 8}}, {143, []int{11, 13}}, {95, []int{5, 19}},
		{840, []int{3, 5, 7, 8}}, {630, []int{9, 7, 5, 2}}, {12, []int{12, 12}}, {2, slices.Repeat([]int{2}, 12)},
	}
	for _, c := range cases {
		if n := mustPermOrder(t, withCycles(c.lengths...)); n != c.order {
			t.Errorf("the order with cycles %v is %d, not %d", c.lengths, n, c.order)
		}
	}
}

func TestPromise58Fixed(t *testing.T) {
	still := 0
	for _, p := range append(somePerms(), keepers()...) {
		fixed := mustFixed(t, p)
		if fixed != fixedTold(p) || mustMoved(t, p, fixed) != fixed {
			t.Fatalf("%v doesn't move %#x", p, fixed)
		}
		if places := placesOf(fixed); impl.PermKeeps(p) && len(places) >= 5 {
			octad := mustThrough(t, places[:5])
			if moved := mustMoved(t, p, octad); moved != octad {
				t.Fatalf("%v moves the octad %#x to %#x", p, octad, moved)
			}
			if !slices.Equal(p, unmoved()) {
				still++
			}
		}
	}
	if still < 100 {
		t.Errorf("only %d permutations that keep the code don't move five places", still)
	}
	for i, want := range []int{impl.WordMax, 0, 0xFFFFFC, 0x7FFFFE} {
		p := [][]int{unmoved(), around(), exchanged(unmoved(), 0, 1), exchanged(unmoved(), 0, 23)}[i]
		if fixed := mustFixed(t, p); fixed != want {
			t.Errorf("%v doesn't move %#x, not %#x", p, fixed, want)
		}
	}
	for _, p := range noPerms() {
		if fixed, ok := impl.PermFixed(p); ok || fixed != 0 {
			t.Errorf("%v doesn't move %#x, %t", p, fixed, ok)
		}
	}
}

func checkKeeps(t *testing.T, p []int, want bool) {
	t.Helper()
	if keeps := impl.PermKeeps(p); keeps != want {
		t.Fatalf("that %v keeps the code is %t", p, keeps)
	}
}

func TestPromise59Keeps(t *testing.T) {
	octad := mustThrough(t, []int{0, 5, 10, 15, 20})
	for i, p := range keepers() {
		checkKeeps(t, p, true)
		if !impl.OctadIn(mustMoved(t, p, 255)) || !impl.OctadIn(mustMoved(t, p, octad)) || !impl.CodeIn(mustMoved(t, p, mustCodeOf(t, 100))) {
			t.Fatalf("%v doesn't keep the code", p)
		}
		for k := range 24 {
			other := exchanged(p, k, (k+1+i%23)%24)
			checkKeeps(t, other, keepsTold(other))
			checkKeeps(t, other, false)
		}
	}
	for _, p := range somePerms() {
		checkKeeps(t, p, keepsTold(p))
	}
	for _, p := range noPerms() {
		checkKeeps(t, p, false)
	}
}

func TestKeepsNoExchange(t *testing.T) {
	for _, pair := range wordsOfWeight(2) {
		places := placesOf(pair)
		for _, p := range [][]int{unmoved(), hexPermTold(hexTold(1, 2, 0)), scalePermTold(2), keeper(1234567)} {
			checkKeeps(t, exchanged(p, places[0], places[1]), false)
		}
	}
}

// allOrders has the orders of the numbers below n.
func allOrders(n int) [][]int {
	if n == 0 {
		return [][]int{{}}
	}
	orders := [][]int{}
	for _, order := range allOrders(n - 1) {
		for at := range n {
			orders = append(orders, slices.Insert(slices.Clone(order), at, n-1))
		}
	}
	return orders
}

// TestKeepsOfRowsAndColumns has permutations that take the columns as wholes: they move row 0 as one row or break it up.
func TestKeepsOfRowsAndColumns(t *testing.T) {
	count := map[bool]int{}
	for _, columns := range allOrders(6) {
		for _, rows := range allOrders(4) {
			p := make([]int, 24)
			for place := range p {
				p[place] = columns[place/4]*4 + rows[place%4]
			}
			want := keepsTold(p)
			checkKeeps(t, p, want)
			count[want]++
		}
	}
	if count[true] < 10 || count[false] < 10000 {
		t.Errorf("that the code is kept is %v", count)
	}
	for column := range 6 {
		for _, rows := range allOrders(4) {
			p := within(func(r, c int) int {
				if c == column {
					return rows[r]
				}
				return r
			})
			checkKeeps(t, p, slices.Equal(p, unmoved()))
		}
	}
}

func TestPromise60Hex(t *testing.T) {
	even := []int{}
	for m, w := range codeTold() {
		if m&64 == 0 {
			even = append(even, w)
		}
	}
	for i, row := range hexacodeTold() {
		p := mustPermHex(t, row)
		checkPerm(t, "the permutation of a row", p, hexPermTold(row))
		checkKeeps(t, p, true)
		checkPerm(t, "the permutation of a row done twice", mustTimes(t, p, p), unmoved())
		for k, w := range even {
			if (i+k)%5 == 0 && !slices.Equal(mustScores(t, mustMoved(t, p, w)), scoresTold(w)) {
				t.Fatalf("%v moves %#x to %#x with other scores", p, w, movedTold(p, w))
			}
		}
		for column, d := range row {
			if p[4*column] != 4*column+d || p[4*column+d] != 4*column {
				t.Fatalf("for the row %v, row 0 of the column %d is moved by %v", row, column, p)
			}
		}
	}
}

func TestHexPermsOutright(t *testing.T) {
	checkPerm(t, "the permutation of six 0", mustPermHex(t, []int{0, 0, 0, 0, 0, 0}), unmoved())
	checkPerm(t, "the permutation of a row with two 0", mustPermHex(t, []int{0, 1, 0, 1, 2, 3}),
		[]int{0, 1, 2, 3, 5, 4, 7, 6, 8, 9, 10, 11, 13, 12, 15, 14, 18, 19, 16, 17, 23, 22, 21, 20})
	checkPerm(t, "the permutation of a row without 0", mustPermHex(t, []int{1, 1, 2, 2, 3, 3}),
		[]int{1, 0, 3, 2, 5, 4, 7, 6, 10, 11, 8, 9, 14, 15, 12, 13, 19, 18, 17, 16, 23, 22, 21, 20})
}

func TestPermHexFails(t *testing.T) {
	check := func(row []int) {
		if p, ok := impl.PermHex(row); ok || len(p) != 0 {
			t.Fatalf("of the row %v is made %v, %t", row, p, ok)
		}
	}
	for _, row := range noRows() {
		check(row)
	}
	for _, row := range hexacodeTold() {
		check(row[:5])
		check(append(slices.Clone(row), 0))
		for k := range row {
			for _, d := range append(noDigits(), row[k]+4, row[k]|1<<32, row[k]-4, row[k]^1, row[k]^2, row[k]^3) {
				other := slices.Clone(row)
				other[k] = d
				check(other)
			}
		}
	}
	found := 0
	for _, row := range rowsOfDigits() {
		if slices.Equal(row, hexTold(row[0], row[1], row[2])) {
			found++
			continue
		}
		check(row)
		checkKeeps(t, hexPermTold(row), false)
	}
	if found != 64 {
		t.Errorf("%d rows are in the hexacode", found)
	}
}

func TestPromise61Scale(t *testing.T) {
	words := append(someWords(), codeTold()...)
	for n := 1; n < 4; n++ {
		p := mustPermScale(t, n)
		checkPerm(t, "the permutation of a digit", p, scalePermTold(n))
		checkKeeps(t, p, true)
		checkPerm(t, "the permutation of a digit done three times", mustTimes(t, p, mustTimes(t, p, p)), unmoved())
		for _, w := range words {
			scores := mustScores(t, mustMoved(t, p, w))
			if want := mustHexTimes(t, mustScores(t, w), n); !slices.Equal(scores, want) {
				t.Fatalf("by the digit %d the scores of %#x become %v, not %v", n, w, scores, want)
			}
		}
		if row := mustMoved(t, p, 0x111111); row != 0x111111 || p[0] != 0 || p[20] != 20 {
			t.Fatalf("by the digit %d, row 0 is moved to %#x", n, row)
		}
	}
	for _, n := range append(noDigits(), 0) {
		if p, ok := impl.PermScale(n); ok || len(p) != 0 {
			t.Errorf("of the digit %d is made %v, %t", n, p, ok)
		}
	}
}

func TestScalesOutright(t *testing.T) {
	checkPerm(t, "the permutation of the digit 1", mustPermScale(t, 1), unmoved())
	checkPerm(t, "the permutation of the digit 2", mustPermScale(t, 2),
		[]int{0, 2, 3, 1, 4, 6, 7, 5, 8, 10, 11, 9, 12, 14, 15, 13, 16, 18, 19, 17, 20, 22, 23, 21})
	checkPerm(t, "the permutation of the digit 3", mustPermScale(t, 3),
		[]int{0, 3, 1, 2, 4, 7, 5, 6, 8, 11, 9, 10, 12, 15, 13, 14, 16, 19, 17, 18, 20, 23, 21, 22})
}

func TestPermArgumentsStay(t *testing.T) {
	lists := append(noPerms(), append(hexacodeTold()[:9], somePerms()[:40]...)...)
	for _, list := range lists {
		whole := append(slices.Clone(list), 1, 2, 3)
		kept := slices.Clone(whole)
		part := whole[:len(list)]
		impl.PermValid(part)
		impl.PermTimes(part, part)
		impl.PermTimes(part, unmoved())
		impl.PermTimes(around(), part)
		impl.PermTurned(part)
		impl.PermWord(part, 4321)
		impl.PermCycles(part)
		impl.PermOrder(part)
		impl.PermFixed(part)
		impl.PermKeeps(part)
		impl.PermHex(part)
		if !slices.Equal(whole, kept) {
			t.Errorf("the list %v became %v", kept, whole)
		}
	}
}

// permResults runs each function of the permutations that returns a list, where the result could be an argument itself.
func permResults(t *testing.T, p, q, row []int) [][]int {
	t.Helper()
	return [][]int{mustTimes(t, p, q), mustTimes(t, q, p), mustTimes(t, p, p), mustTurned(t, p), mustTurned(t, q), mustCycles(t, p),
		mustCycles(t, q), mustPermHex(t, row), mustPermHex(t, []int{0, 0, 0, 0, 0, 0}), mustPermScale(t, 1), mustPermScale(t, 2)}
}

func TestPermResultsAreNewMemory(t *testing.T) {
	for _, p := range [][]int{unmoved(), exchanged(unmoved(), 4, 9), around(), withCycles(3, 5, 7, 8)} {
		q, row := unmoved(), hexTold(0, 1, 2)
		checkNewMemory(t, func() [][]int { return permResults(t, p, q, row) }, p, q, row)
	}
}
