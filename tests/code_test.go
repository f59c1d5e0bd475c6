package tests

import (
	"math"
	"math/bits"
	"slices"
	"sync"
	"testing"

	"loop.example/golayoctads/impl"
)

// scoreTold is the sum of the rows of the places of one column, a number from 0 to 15.
func scoreTold(column int) int {
	sum := 0
	for row := range 4 {
		if column>>row&1 == 1 {
			sum ^= row
		}
	}
	return sum
}

func scoresTold(w int) []int {
	scores := make([]int, 6)
	for column := range 6 {
		scores[column] = scoreTold(w >> (4 * column) & 15)
	}
	return scores
}

// oddOf is 1 for an odd weight, and otherwise 0.
func oddOf(w int) int {
	return bits.OnesCount(uint(w)) % 2
}

// sameParity reports whether the weights of all columns and that of row 0 are all even or all odd.
func sameParity(w int) bool {
	for column := range 6 {
		if oddOf(w>>(4*column)&15) != oddOf(w&0x111111) {
			return false
		}
	}
	return true
}

// inCodeTold is the definition of the code, for any word.
func inCodeTold(w int) bool {
	if !sameParity(w) {
		return false
	}
	scores := scoresTold(w)
	return slices.Equal(scores, hexTold(scores[0], scores[1], scores[2]))
}

// messageTold reads the message of a word of the code by the definition.
func messageTold(w int) int {
	scores := scoresTold(w)
	m := scores[0] + 4*scores[1] + 16*scores[2] + 64*oddOf(w&0x111111)
	for column := 1; column < 6; column++ {
		m += w >> (4 * column) & 1 << (6 + column)
	}
	return m
}

// codeTold goes through all words and returns those of the code, each at the index of its message.
var codeTold = sync.OnceValue(func() []int {
	words := slices.Repeat([]int{-1}, impl.Messages)
	for w := range impl.WordMax + 1 {
		if inCodeTold(w) {
			words[messageTold(w)] = w
		}
	}
	return words
})

// nearTold returns the nearest words of the code in ascending order, and in how many places they differ.
func nearTold(w int) ([]int, int) {
	fewest, nearest := 25, []int{}
	for _, v := range codeTold() {
		n := bits.OnesCount(uint(w ^ v))
		if n < fewest {
			fewest, nearest = n, nil
		}
		if n == fewest {
			nearest = append(nearest, v)
		}
	}
	slices.Sort(nearest)
	return nearest, fewest
}

// wordsOfWeight returns all words of a weight, in ascending order.
func wordsOfWeight(n int) []int {
	words := []int{1<<n - 1}
	for {
		next, more := nextOfWeight(words[len(words)-1])
		if !more {
			return words
		}
		words = append(words, next)
	}
}

// wrongWords has words of the code with each three or fewer places wrong, and with some of each four,
// so that both kinds of columns, and words near to one and near to six, are among them.
func wrongWords() []int {
	words := []int{}
	for n := range 5 {
		for i, wrong := range wordsOfWeight(n) {
			if n < 4 || i%7 == 0 {
				words = append(words, codeTold()[(i*1097+64)%impl.Messages]^wrong)
			}
		}
	}
	return words
}

// oddWords has words whose columns are all odd, in the code and not.
func oddWords() []int {
	words := []int{0x111111, 0x222222, 0x444444, 0x888888, 0x777777, 0xEEEEEE, 0xEEEEE1, 0x117778, 0xBBBBBB, 0xDDDDDD, 0x1EEEEE, 0x12487B}
	for m := 64; m < impl.Messages; m += 128 {
		words = append(words, codeTold()[m])
	}
	for i := range 60 {
		w := 0
		for column := range 6 {
			w = 16*w + []int{1, 2, 4, 8, 7, 11, 13, 14}[(i*(column+3)+column)%8]
		}
		words = append(words, w)
	}
	return words
}

// noMessages has numbers just outside, the ends of the type, and messages with a high bit besides.
func noMessages() []int {
	return []int{-1, -2, -64, -4095, -4096, 4096, 4097, 8191, 1 << 15, 1 << 16, 1<<16 + 5, 1<<16 + 4095, 1 << 31, 1 << 32,
		1<<32 + 64, -1 << 16, -1 << 32, 1<<62 + 3, math.MinInt, math.MinInt + 1, math.MaxInt}
}

func mustCodeOf(t *testing.T, m int) int {
	t.Helper()
	w, ok := impl.CodeOf(m)
	if !ok {
		t.Fatalf("the message %d has no word", m)
	}
	return w
}

func mustScores(t *testing.T, w int) []int {
	t.Helper()
	scores, ok := impl.CodeScores(w)
	if !ok || len(scores) != 6 {
		t.Fatalf("the scores of %d are %v, %t", w, scores, ok)
	}
	return scores
}

func mustNear(t *testing.T, w int) []int {
	t.Helper()
	list, ok := impl.CodeNear(w)
	if !ok || len(list) == 0 {
		t.Fatalf("near %d are %v, %t", w, list, ok)
	}
	return list
}

func mustWeights(t *testing.T, low, high int) []int {
	t.Helper()
	counts, ok := impl.CodeWeights(low, high)
	if !ok || len(counts) != 25 {
		t.Fatalf("the weights from %d to %d are %v, %t", low, high, counts, ok)
	}
	return counts
}

func TestMessagesConstant(t *testing.T) {
	if impl.Messages != 4096 {
		t.Errorf("Messages is %d", impl.Messages)
	}
	if m := slices.Index(codeTold(), -1); m >= 0 {
		t.Errorf("the definition has no word for the message %d", m)
	}
}

func TestPromise20Scores(t *testing.T) {
	for _, w := range slices.Concat(someWords(), oddWords(), codeTold()) {
		scores := mustScores(t, w)
		if !slices.Equal(scores, scoresTold(w)) {
			t.Fatalf("the scores of %d are %v, not %v", w, scores, scoresTold(w))
		}
		if others := mustScores(t, impl.WordMax-w); !slices.Equal(others, scores) {
			t.Fatalf("the scores of %d are %v, those of all other places %v", w, scores, others)
		}
		sum := mustScores(t, mustTwo(t, impl.WordAdd, w, 30583))
		if want := mustHexAdd(t, scores, mustScores(t, 30583)); !slices.Equal(sum, want) {
			t.Fatalf("the scores of %d are %v, and of the sum with 30583 %v, not %v", w, scores, sum, want)
		}
	}
	for _, w := range noWords() {
		if scores, ok := impl.CodeScores(w); ok || len(scores) != 0 {
			t.Errorf("the scores of %d are %v, %t", w, scores, ok)
		}
	}
}

// TestScoresOfEachColumn puts each of the sixteen columns at each of the six positions.
func TestScoresOfEachColumn(t *testing.T) {
	told := [16]int{0, 0, 1, 1, 2, 2, 3, 3, 3, 3, 2, 2, 1, 1, 0, 0}
	for column := range 6 {
		for part, score := range told {
			want := make([]int, 6)
			want[column] = score
			if scores := mustScores(t, part<<(4*column)); !slices.Equal(scores, want) {
				t.Errorf("the scores of %d in column %d are %v, not %v", part, column, scores, want)
			}
		}
	}
}

// TestPromise21In goes through all words: just those of the definition are in the code.
func TestPromise21In(t *testing.T) {
	told := slices.Sorted(slices.Values(codeTold()))
	for w := range impl.WordMax + 1 {
		want := len(told) > 0 && told[0] == w
		if want {
			told = told[1:]
		}
		in := impl.CodeIn(w)
		if in != want {
			t.Fatalf("that %d is in the code is %t", w, in)
		}
		if in && (!impl.CodeIn(impl.WordMax-w) || !impl.HexIn(mustScores(t, w)) ||
			!slices.Contains([]int{0, 8, 12, 16, 24}, impl.WordWeight(w))) {
			t.Fatalf("%d is in the code with the weight %d and the scores %v", w, impl.WordWeight(w), mustScores(t, w))
		}
	}
	for _, w := range noWords() {
		if impl.CodeIn(w) {
			t.Errorf("%d is in the code", w)
		}
	}
}

// TestInNeedsEachParity has words that meet all conditions of the code but one.
func TestInNeedsEachParity(t *testing.T) {
	words := map[int]bool{
		0: true, impl.WordMax: true, 255: true, 0xEEEEE1: true, 0x1EEEEE: true, 0x117778: true,
		0x111111: false, 0xEEEEEE: false, // odd columns with an even row 0
		0x00000F: false, 0xFFFFF0: false, // even columns with an odd row 0
		0x00000E: false, 0xEEEEE0: false, // columns both even and odd
		0xEEEEE2: false, 0x000006: false, 0xEEEE14: false, // scores that are no row of the hexacode
		impl.WordMax - 1: false, 1: false, 254: false,
	}
	for w, want := range words {
		if in := impl.CodeIn(w); in != want || inCodeTold(w) != want {
			t.Errorf("that %d is in the code is %t", w, in)
		}
	}
}

func TestPromise22Of(t *testing.T) {
	base := mustCodeOf(t, 1365)
	for m, want := range codeTold() {
		w := mustCodeOf(t, m)
		if w != want || !impl.CodeIn(w) {
			t.Fatalf("the word of the message %d is %d, not %d", m, w, want)
		}
		if back, ok := impl.CodeMessage(w); !ok || back != m {
			t.Fatalf("the message of %d is %d, %t, not %d", w, back, ok, m)
		}
		if sum := mustTwo(t, impl.WordAdd, w, base); sum != mustCodeOf(t, m^1365) {
			t.Fatalf("the sum of the words of the messages %d and 1365 is %d", m, sum)
		}
		if scores := mustScores(t, w); !slices.Equal(scores, hexTold(m%4, m/4%4, m/16%4)) || oddOf(w&15) != m/64%2 {
			t.Fatalf("the word of the message %d is %d with the scores %v", m, w, scores)
		}
	}
	for _, m := range noMessages() {
		if w, ok := impl.CodeOf(m); ok || w != 0 {
			t.Errorf("the word of the message %d is %d, %t", m, w, ok)
		}
	}
}

func TestWordsOfMessagesToldOutright(t *testing.T) {
	words := map[int]int{0: 0, 64: 0xEEEEE1, 128: 0x0000FF, 256: 0x000F0F, 2048: 0xF0000F, 3968: impl.WordMax,
		4095: 0x117778, 1: 0xA6C00C, 48: 0x666600, 64 + 128: 0xEEEE1E, 64 + 3968: 0x11111E}
	for m, want := range words {
		if w := mustCodeOf(t, m); w != want {
			t.Errorf("the word of the message %d is %#x, not %#x", m, w, want)
		}
		if back, ok := impl.CodeMessage(want); !ok || back != m {
			t.Errorf("the message of %#x is %d, %t, not %d", want, back, ok, m)
		}
	}
}

func TestPromise23Message(t *testing.T) {
	for _, w := range slices.Concat(someWords(), oddWords(), wrongWords(), codeTold()) {
		m, ok := impl.CodeMessage(w)
		if ok != inCodeTold(w) {
			t.Fatalf("the message of %d is %d, %t", w, m, ok)
		}
		if !ok && m != 0 {
			t.Fatalf("the message of %d, not in the code, is %d", w, m)
		}
		if ok && (m != messageTold(w) || mustCodeOf(t, m) != w) {
			t.Fatalf("the message of %d is %d, not %d", w, m, messageTold(w))
		}
	}
	for _, w := range noWords() {
		if m, ok := impl.CodeMessage(w); ok || m != 0 {
			t.Errorf("the message of %d is %d, %t", w, m, ok)
		}
	}
}

func TestPromise24Far(t *testing.T) {
	counts := map[int]int{}
	for _, w := range slices.Concat(someWords(), oddWords(), wrongWords()) {
		n := impl.CodeFar(w)
		if _, want := nearTold(w); n != want || n < 0 || n > 4 {
			t.Fatalf("%d is far by %d, not %d", w, n, want)
		}
		if (n == 0) != impl.CodeIn(w) || n%2 != impl.WordWeight(w)%2 {
			t.Fatalf("%d of the weight %d is far by %d", w, impl.WordWeight(w), n)
		}
		counts[n]++
	}
	if len(counts) != 5 {
		t.Errorf("there are words far by %v", counts)
	}
	for _, w := range noWords() {
		if n := impl.CodeFar(w); n != -1 {
			t.Errorf("%d is far by %d", w, n)
		}
	}
}

func TestPromise25Near(t *testing.T) {
	for _, w := range slices.Concat(someWords(), oddWords(), wrongWords()) {
		list, far := mustNear(t, w), impl.CodeFar(w)
		if want, _ := nearTold(w); !slices.Equal(list, want) {
			t.Fatalf("near %d are %v, not %v", w, list, want)
		}
		if far <= 3 && len(list) != 1 || far == 4 && len(list) != 6 {
			t.Fatalf("near %d, far by %d, are %v", w, far, list)
		}
		for _, v := range list {
			if n := impl.WordWeight(mustTwo(t, impl.WordAdd, w, v)); !impl.CodeIn(v) || n != far {
				t.Fatalf("near %d, far by %d, is %d, which differs in %d places", w, far, v, n)
			}
		}
	}
	for _, w := range noWords() {
		if list, ok := impl.CodeNear(w); ok || len(list) != 0 {
			t.Errorf("near %d are %v, %t", w, list, ok)
		}
	}
}

func TestNearCodeToldOutright(t *testing.T) {
	cases := []struct {
		w, far int
		near   []int
	}{
		{0, 0, []int{0}},
		{impl.WordMax, 0, []int{impl.WordMax}},
		{255, 0, []int{255}},
		{254, 1, []int{255}},
		{0x00003F, 2, []int{255}},
		{0x00001F, 3, []int{255}},
		{7, 3, []int{0}},
		{15, 4, []int{0, 0x0000FF, 0x000F0F, 0x00F00F, 0x0F000F, 0xF0000F}},
		{impl.WordMax - 15, 4, []int{0x0FFFF0, 0xF0FFF0, 0xFF0FF0, 0xFFF0F0, 0xFFFF00, impl.WordMax}},
		{0xEEEEE1, 0, []int{0xEEEEE1}},
		{0xEEEEE0, 1, []int{0xEEEEE1}},
		{0xEEEEEE, 4, []int{0x1EEEEE, 0xE1EEEE, 0xEE1EEE, 0xEEE1EE, 0xEEEE1E, 0xEEEEE1}},
	}
	for _, c := range cases {
		if list := mustNear(t, c.w); !slices.Equal(list, c.near) || impl.CodeFar(c.w) != c.far {
			t.Errorf("near %#x are %#x, far by %d, not %#x by %d", c.w, list, impl.CodeFar(c.w), c.near, c.far)
		}
		mended, ok := impl.CodeMend(c.w)
		if ok != (c.far < 4) || ok && mended != c.near[0] || !ok && mended != 0 {
			t.Errorf("%#x is mended to %#x, %t", c.w, mended, ok)
		}
	}
}

func TestPromise26Mend(t *testing.T) {
	for _, w := range slices.Concat(someWords(), oddWords(), wrongWords()) {
		mended, ok := impl.CodeMend(w)
		near, far := nearTold(w)
		if ok != (far <= 3) || !ok && mended != 0 {
			t.Fatalf("%d, far by %d, is mended to %d, %t", w, far, mended, ok)
		}
		if !ok {
			continue
		}
		if mended != near[0] || !impl.CodeIn(mended) || impl.WordWeight(mustTwo(t, impl.WordAdd, w, mended)) > 3 {
			t.Fatalf("%d is mended to %d, not %d", w, mended, near[0])
		}
		for _, place := range []int{0, 7, 23} {
			if again, fine := impl.CodeMend(mended ^ 1<<place); !fine || again != mended {
				t.Fatalf("%d with the place %d wrong is mended to %d, %t", mended, place, again, fine)
			}
		}
	}
	for _, w := range noWords() {
		if mended, ok := impl.CodeMend(w); ok || mended != 0 {
			t.Errorf("%d is mended to %d, %t", w, mended, ok)
		}
	}
}

func TestPromise27ThreePlacesMended(t *testing.T) {
	for m := range impl.Messages {
		w := mustCodeOf(t, m)
		wrong := w ^ 1<<(m%24) ^ 1<<((m+5)%24) ^ 1<<((m+11)%24)
		if mended, ok := impl.CodeMend(wrong); !ok || mended != w {
			t.Fatalf("the word %d of the message %d with three places wrong is mended to %d, %t", w, m, mended, ok)
		}
	}
}

// TestFourPlacesNotMended has each four places wrong in a word of the code: these are near to six.
func TestFourPlacesNotMended(t *testing.T) {
	for i, wrong := range wordsOfWeight(4) {
		w := codeTold()[i%impl.Messages] ^ wrong
		if mended, ok := impl.CodeMend(w); ok || mended != 0 {
			t.Fatalf("%d, with four places wrong, is mended to %d, %t", w, mended, ok)
		}
	}
}

func weightsTold(low, high int) []int {
	counts := make([]int, 25)
	for _, w := range codeTold()[low : high+1] {
		counts[bits.OnesCount(uint(w))]++
	}
	return counts
}

func checkWeights(t *testing.T, low, high int) {
	t.Helper()
	counts, sum := mustWeights(t, low, high), 0
	for weight, n := range counts {
		sum += n
		if n != 0 && !slices.Contains([]int{0, 8, 12, 16, 24}, weight) {
			t.Fatalf("from %d to %d the weight %d has %d words", low, high, weight, n)
		}
	}
	if sum != high-low+1 || !slices.Equal(counts, weightsTold(low, high)) {
		t.Fatalf("the weights from %d to %d are %v, not %v", low, high, counts, weightsTold(low, high))
	}
}

func TestPromise28Weights(t *testing.T) {
	for m := range impl.Messages {
		checkWeights(t, m, m)
	}
	for low := 0; low < impl.Messages; low += 119 {
		for high := low; high < impl.Messages; high += 137 {
			checkWeights(t, low, high)
		}
		checkWeights(t, 0, low)
		checkWeights(t, low, 4095)
	}
	all := make([]int, 25)
	all[0], all[8], all[12], all[16], all[24] = 1, 759, 2576, 759, 1
	if counts := mustWeights(t, 0, 4095); !slices.Equal(counts, all) {
		t.Errorf("the weights of all words of the code are %v", counts)
	}
}

func TestWeightsFail(t *testing.T) {
	ranges := [][2]int{{1, 0}, {4095, 0}, {4095, 4094}, {64, 63}, {2, 0}, {math.MaxInt, math.MinInt}, {math.MinInt, math.MaxInt}}
	for _, bad := range noMessages() {
		ranges = append(ranges, [2]int{bad, bad}, [2]int{0, bad}, [2]int{4095, bad}, [2]int{bad, 0}, [2]int{bad, 4095})
	}
	for _, r := range ranges {
		if counts, ok := impl.CodeWeights(r[0], r[1]); ok || len(counts) != 0 {
			t.Errorf("the weights from %d to %d are %v, %t", r[0], r[1], counts, ok)
		}
	}
}

// codeResults runs each function of the code that returns a list.
func codeResults(t *testing.T) [][]int {
	t.Helper()
	return [][]int{mustScores(t, 30583), mustScores(t, 0), mustNear(t, 15), mustNear(t, 0), mustNear(t, 0xEEEEE0),
		mustNear(t, 0xEEEEEE), mustWeights(t, 0, 4095), mustWeights(t, 64, 64)}
}

func TestCodeResultsAreNewMemory(t *testing.T) {
	checkNewMemory(t, func() [][]int { return codeResults(t) })
}
