package tests

import (
	"math/bits"
	"regexp"
	"slices"
	"strconv"
	"strings"
	"testing"

	"loop.example/golayoctads/impl"
)

// scriptTold is MaxScript as the definition has it.
const scriptTold = 600

var (
	numberTold = regexp.MustCompile(`^[0-9]{1,8}$`)
	fiveTold   = regexp.MustCompile(`^[0-9]{1,8}( [0-9]{1,8}){4}$`)
)

// A rule tells, for a word and the rest of a line, the word behind the line and the answer, or false if the line fails.
type rule func(w int, told string) (int, string, bool)

func changed(w int, ok bool) (int, string, bool) { return w, "ok", ok }

func joined(list []int) string {
	texts := []string{}
	for _, n := range list {
		texts = append(texts, strconv.Itoa(n))
	}
	return strings.Join(texts, " ")
}

func numbersTold(told string, form *regexp.Regexp) ([]int, bool) {
	if !form.MatchString(told) {
		return nil, false
	}
	numbers := []int{}
	for _, text := range strings.Fields(told) {
		n, _ := strconv.Atoi(text)
		numbers = append(numbers, n)
	}
	return numbers, true
}

// byNumber is the rule of a rest of one number below a limit.
func byNumber(limit int, of func(w, n int) int) rule {
	return func(w int, told string) (int, string, bool) {
		numbers, ok := numbersTold(told, numberTold)
		if !ok || numbers[0] >= limit {
			return 0, "", false
		}
		return changed(of(w, numbers[0]), true)
	}
}

func readLineTold(_ int, told string) (int, string, bool) {
	w := 0
	for place := range 24 {
		if i := place%4*7 + place/4; i < len(told) && told[i] == 'x' {
			w |= 1 << place
		}
	}
	return changed(w, textOf(w) == told)
}

func octadLineTold(_ int, told string) (int, string, bool) {
	numbers, ok := numbersTold(told, fiveTold)
	w := 0
	for _, place := range numbers {
		ok = ok && place < 24 && w>>place&1 == 0
		if ok {
			w |= 1 << place
		}
	}
	if !ok {
		return 0, "", false
	}
	return changed(octadsOf(w, 0)[0], true)
}

// restRules has the commands with a rest.
func restRules() map[string]rule {
	return map[string]rule{
		"set":   byNumber(1<<24, func(_, n int) int { return n }),
		"add":   byNumber(1<<24, func(w, n int) int { return w ^ n }),
		"code":  byNumber(4096, func(_, n int) int { return codeTold()[n] }),
		"line":  byNumber(23, func(_, n int) int { return generatorTold(n) }),
		"read":  readLineTold,
		"octad": octadLineTold,
	}
}

// asking is the rule of a line that leaves the word as it is.
func asking(of func(w int) (string, bool)) rule {
	return func(w int, _ string) (int, string, bool) {
		text, ok := of(w)
		return w, text, ok
	}
}

func yesTold(w int) (string, bool) {
	if inCodeTold(w) {
		return "yes", true
	}
	return "not", true
}

func farTextTold(w int) (string, bool) {
	_, fewest := nearTold(w)
	return strconv.Itoa(fewest), true
}

func sextetTextTold(w int) (string, bool) {
	s, ok := sextetsByTetrad()[w]
	return joined(s), ok
}

func meetTextTold(w int) (string, bool) {
	counts := make([]int, 9)
	for _, octad := range octadsTold() {
		counts[bits.OnesCount(uint(octad&w))]++
	}
	return joined(counts), octadTold(w)
}

func mendLineTold(w int, _ string) (int, string, bool) {
	nearest, fewest := nearTold(w)
	return changed(nearest[0], fewest <= 3)
}

// bareRules has the commands without a rest.
func bareRules() map[string]rule {
	return map[string]rule{
		"show":   asking(func(w int) (string, bool) { return textOf(w), true }),
		"places": asking(func(w int) (string, bool) { return joined(placesOf(w)), true }),
		"weight": asking(func(w int) (string, bool) { return strconv.Itoa(bits.OnesCount(uint(w))), true }),
		"scores": asking(func(w int) (string, bool) { return joined(scoresTold(w)), true }),
		"in":     asking(yesTold),
		"near":   asking(farTextTold),
		"sextet": asking(sextetTextTold),
		"meet":   asking(meetTextTold),
		"mend":   mendLineTold,
	}
}

// answerTold tells the word behind one line and its answer, by the definition.
func answerTold(w int, line string) (int, string) {
	name, told, rules := line, "", bareRules()
	if i := strings.IndexByte(line, ' '); i >= 0 {
		name, told, rules = line[:i], line[i+1:], restRules()
	}
	found, is := rules[name]
	if !is {
		return w, "what"
	}
	next, text, ok := found(w, told)
	if !ok {
		return w, "no"
	}
	return next, text
}

// bodyTold tells the answers to the complete lines of a script, each with a newline, and the word behind them.
func bodyTold(script string) (string, int) {
	body, w := "", 0
	for {
		i := strings.IndexByte(script, '\n')
		if i < 0 {
			return body, w
		}
		text := ""
		w, text = answerTold(w, script[:i])
		body += text + "\n"
		script = script[i+1:]
	}
}

func outputTold(script string) string {
	if len(script) > scriptTold {
		return "too long\n"
	}
	body, w := bodyTold(script)
	return body + lastTold(w)
}

func lastTold(w int) string { return "word " + strconv.Itoa(w) + "\n" }

func setting(w int) string { return "set " + strconv.Itoa(w) + "\n" }

func checkOutput(t *testing.T, script, want string) {
	t.Helper()
	if output := impl.Execute(script); output != want {
		t.Fatalf("the script %q prints %q, not %q", script, output, want)
	}
}

// checkScript compares a script with what the definition tells.
func checkScript(t *testing.T, script string) {
	t.Helper()
	checkOutput(t, script, outputTold(script))
}

// checkStays has a line with a given answer that leaves the word as it is, ahead of and behind others.
func checkStays(t *testing.T, w int, line, want string) {
	t.Helper()
	checkOutput(t, setting(w)+line+"\n", "ok\n"+want+"\n"+lastTold(w))
	checkOutput(t, setting(w)+line+"\nplaces\n"+line+"\n", "ok\n"+want+"\n"+joined(placesOf(w))+"\n"+want+"\n"+lastTold(w))
}

// benchWords has words at which each command succeeds and, where it can, fails: octads and other words of the code, tetrads,
// words near to the code and far from it.
func benchWords() []int {
	return []int{0, 1, 3, 7, 15, 23, 0xF00000, 0x800007, 31, 127, 254, 255, 511, 0x0F000F, 0xFF0000, 0x11111E, 0x00FFFF,
		0xEEEEE1, 30583, 4321, 0x111111, 0xFFF, 8729438, 8388607, 8388608,
		impl.WordMax - 255, impl.WordMax - 15, impl.WordMax - 1, impl.WordMax}
}

// fullText is a rest from which the word 255 is read.
const fullText = "xx..../xx..../xx..../xx...."

// goodLines has each command with a rest, at the edges of what succeeds and between them.
func goodLines() []string {
	return []string{
		"set 0", "set 5", "set 255", "set 16777215", "set 00000005", "set 00000000", "set 10000000",
		"add 0", "add 1", "add 255", "add 16777215", "add 00000255",
		"read " + fullText, "read " + textOf(0), "read " + textOf(4321), "read " + textOf(impl.WordMax),
		"code 0", "code 128", "code 4095", "code 00004095",
		"line 0", "line 22", "line 00000022",
		"octad 0 1 2 3 4", "octad 23 22 21 20 19", "octad 4 0 23 11 8", "octad 00000000 1 02 003 00000023",
	}
}

func bareNames() []string {
	return []string{"show", "places", "weight", "scores", "in", "mend", "near", "sextet", "meet"}
}

func restNames() []string {
	return []string{"set", "add", "read", "code", "octad", "line"}
}

// otherLines has lines that are none of those told.
func otherLines() []string {
	lines := []string{
		"", " ", "  ", "zzz", "zzz 1", "0", "255", "x", "hold 5", "quit", "# 5",
		"ok", "no", "what", "word", "word 0", "too long", "not", "yes",
		"sets 5", "se 5", "Set 5", "set\t5", "set,5", "set/5", "\tset 5", "set\r", "codes 0", "lines 0", "mends",
		"shows", "sho", "Show", "show show", "show\r", "show\t", "show\v", "show\x00", "\x00show", "inn", "i", "in in", "in\f",
		"octad0 1 2 3 4", "octads 0 1 2 3 4", "octad,0,1,2,3,4",
		"\xff", "\xff\xfe", "\xc3", "é", "show\xff", "near\x80", "set\xa05", "set\u00a05", "set\u20035",
	}
	for _, name := range bareNames() {
		lines = append(lines, name+" ", name+"  ", " "+name, " "+name+" ", name+" 0", name+" 5", name+" x", name+" 0 1 2 3 4",
			name+name, name+"\r", strings.ToUpper(name), name[1:])
	}
	for _, name := range restNames() {
		lines = append(lines, name, " "+name, " "+name+" 5", "  "+name+" 5", name+"5", name+"\t5", name+"\r", name+name+" 5",
			strings.ToUpper(name)+" 5", name[1:]+" 5")
	}
	return lines
}

// wrongNumbers has rests that are no number of one to eight digits, among them such as other readers of numbers take.
func wrongNumbers() []string {
	return []string{
		"", " ", "  ", " 5", "5 ", " 5 ", "  5", "5  ", "5 5", "5  5", "0 0", "\t5", "5\t", "5\r", "\r", "5\v", "5\u00a05",
		"-1", "-0", "+1", "+5", "--5", "-", "+", "5-", "5+", "x", "5x", "x5", "a", "A", "/", ":", "five", fullText,
		"0x5", "0b1", "0o7", "1e2", "5.0", "5.", ".5", "1_0", "1,0", "1/1",
		"5\x00", "\x005", "\xff", "5\xff", "é", "٥", "５", "²",
		"000000000", "000000005", "016777215", "016777216", "100000000", "123456789", "999999999", "00000000000000000005",
		"4294967296", "4294967301", "9223372036854775807", "18446744073709551616", "18446744073709551621", "-9223372036854775808",
	}
}

// failingRests has, for each command with a rest, rests with which it fails at each word.
func failingRests() map[string][]string {
	noWord := []string{"16777216", "16777217", "20000000", "33554431", "99999999"}
	noMessage := []string{"4096", "4097", "8191", "65536", "00004096", "16777215", "16777216", "99999999"}
	noResidue := []string{"23", "24", "45", "46", "00000023", "255", "256", "16777215", "99999999"}
	return map[string][]string{
		"set":   append(wrongNumbers(), noWord...),
		"add":   append(wrongNumbers(), noWord...),
		"code":  append(wrongNumbers(), noMessage...),
		"line":  append(wrongNumbers(), noResidue...),
		"octad": append(wrongNumbers(), wrongFives()...),
		"read":  wrongTexts(),
	}
}

func wrongTexts() []string {
	return []string{
		"", " ", "x", "0", "255", "16777215", "///", "xxxxxxxxxxxxxxxxxxxxxxxx", "........................", strings.Repeat("x", 200),
		fullText + " ", " " + fullText, fullText + "\r", fullText + "/", fullText + ".", fullText + " " + fullText,
		fullText[:20], fullText[:26], fullText[1:], "\xff" + fullText[1:], "é" + fullText[2:], strings.ToUpper(fullText),
		strings.ReplaceAll(fullText, ".", " "), strings.ReplaceAll(fullText, ".", "0"), strings.ReplaceAll(fullText, "/", " "),
	}
}

// wrongFives has rests that are no five numbers, and such of which no octad is told.
func wrongFives() []string {
	fives := []string{
		"0", "0 1", "0 1 2", "0 1 2 3", "0 1 2 3 4 5", "0 1 2 3 4 5 6 7", "0 1 2 3 4 24", "0 1 2 3 4 x",
		"0 0 1 2 3", "0 1 2 3 3", "0 1 2 3 0", "5 5 5 5 5", "00 0 1 2 3", "24 25 26 27 28",
		"0 1 2 3 28", "0 1 2 3 256", "0 1 2 3 99999999", "0 1 2 3 4294967300", "0 1 2 3 18446744073709551620",
		"0 1 2 3 -4", "0 1 2 3 +4", "-0 1 2 3 4", "0,1,2,3,4", "0\t1 2 3 4", "0 1 2 3\t4", "0 1 2 3 4\r", "0 1 2 3 4\xff",
		" 0 1 2 3 4", "0 1 2 3 4 ", "0  1 2 3 4", "0 1  2 3 4", "0 1 2 3  4", "0 1 2  4", "0 1 2 3 4  ", "    ",
	}
	for k := range 5 {
		for _, bad := range []string{"", "24", "100", "-1", "x", "000000009", "16777215", "16777216"} {
			texts := []string{"0", "1", "2", "3", "4"}
			texts[k] = bad
			fives = append(fives, strings.Join(texts, " "))
		}
	}
	return fives
}

// mixtureLines has lines of all kinds.
func mixtureLines() []string {
	return slices.Concat(goodLines(), bareNames(), goodLines(), bareNames(),
		[]string{"zzz", "", "set x", "show ", "set", " in", "octad 0 0 1 2 3", "code 4096"})
}

// someScripts has scripts of complete lines: each good line, and mixtures and repeated lines that fill the room.
func someScripts(room int) []string {
	scripts := []string{"", "\n", "\n\n\n", "show\n", strings.Repeat("\n", room), strings.Repeat("near\n", room/5), strings.Repeat("z", room-1) + "\n"}
	for _, line := range goodLines() {
		scripts = append(scripts, line+"\n")
	}
	lines := mixtureLines()
	for step := 1; step < len(lines); step += 3 {
		script := ""
		for i := 0; ; i++ {
			line := lines[i*step*step%len(lines)] + "\n"
			if len(script)+len(line) > room {
				break
			}
			script += line
		}
		// What is left of the room is one more line.
		if left := room - len(script); left > 0 {
			script += strings.Repeat("y", left-1) + "\n"
		}
		scripts = append(scripts, script)
	}
	return scripts
}

func TestMaxScript(t *testing.T) {
	if impl.MaxScript != scriptTold {
		t.Errorf("MaxScript is %d", impl.MaxScript)
	}
}

func TestPromise79EmptyScript(t *testing.T) {
	checkOutput(t, "", "word 0\n")
	for _, script := range append(someScripts(scriptTold), strings.Repeat("\n", scriptTold+1), strings.Repeat("x", 5000)) {
		if output := impl.Execute(script); output == "" {
			t.Errorf("the output of %q is empty", script)
		}
	}
}

func TestPromise79LastLineWithoutNewline(t *testing.T) {
	for _, script := range someScripts(scriptTold - 20) {
		want := outputTold(script)
		for _, tail := range []string{"", " ", "set 5", "show", "zzz", "set x", "add 1", "code 4095", "octad 0 1 2 3 4", "\r", "\x00",
			"\xff\xfe", strings.Repeat("x", 20), strings.Repeat(" ", scriptTold-len(script))} {
			checkOutput(t, script+tail, want)
		}
	}
	checkOutput(t, "set 5", "word 0\n")
	checkOutput(t, "set 5\n", "ok\nword 5\n")
	checkOutput(t, "set 5\nset 7", "ok\nword 5\n")
	checkOutput(t, "set 5\nset 7\n", "ok\nok\nword 7\n")
	checkOutput(t, "set 5\r\nset 7\r", "no\nword 0\n")
}

func TestLongestScripts(t *testing.T) {
	for _, script := range someScripts(scriptTold) {
		checkScript(t, script)
		if len(script) != scriptTold {
			continue
		}
		for _, more := range []string{"\n", "x", " ", "\x00", "\xff"} {
			checkOutput(t, script+more, "too long\n")
			checkOutput(t, more+script, "too long\n")
		}
	}
	checkOutput(t, strings.Repeat("z", scriptTold), "word 0\n")
	checkOutput(t, strings.Repeat("z", scriptTold+1), "too long\n")
	checkOutput(t, strings.Repeat("\n", scriptTold), strings.Repeat("what\n", scriptTold)+"word 0\n")
	checkOutput(t, strings.Repeat("\n", scriptTold+1), "too long\n")
	checkOutput(t, "set 5\n"+strings.Repeat("z", scriptTold-6), "ok\nword 5\n")
	checkOutput(t, "set 5\n"+strings.Repeat("z", scriptTold-5), "too long\n")
	checkOutput(t, "set 5\n"+strings.Repeat("z", 100000), "too long\n")
	// Its length is counted in bytes: these are 300 and 301 letters.
	checkOutput(t, strings.Repeat("é", scriptTold/2), "word 0\n")
	checkOutput(t, strings.Repeat("é", scriptTold/2+1), "too long\n")
}

func TestPromise80OtherLineAndFailure(t *testing.T) {
	for _, script := range someScripts(scriptTold - 10) {
		body, w := bodyTold(script)
		checkOutput(t, script, body+lastTold(w))
		checkOutput(t, script+"zzz\nset x\n", body+"what\nno\n"+lastTold(w))
	}
}

func TestPromise81ShowTwice(t *testing.T) {
	for _, script := range someScripts(scriptTold - 10) {
		body, w := bodyTold(script)
		checkOutput(t, script+"show\nshow\n", body+textOf(w)+"\n"+textOf(w)+"\n"+lastTold(w))
	}
}

func TestPromise82SetAndAsk(t *testing.T) {
	for _, w := range slices.Concat(someWords(), oddWords(), benchWords()) {
		text, _ := impl.WordText(w)
		want := "ok\n" + text + "\n" + strconv.Itoa(impl.WordWeight(w)) + "\n" + strconv.Itoa(impl.CodeFar(w)) + "\n" + lastTold(w)
		checkOutput(t, setting(w)+"show\nweight\nnear\n", want)
		checkScript(t, setting(w)+"show\nweight\nnear\n")
	}
}

func TestPromise83Mend(t *testing.T) {
	mended, others := 0, 0
	for i, w := range slices.Concat(someWords(), benchWords(), wrongWords()) {
		if i > 400 && i%17 != 0 {
			continue
		}
		script := setting(w) + "mend\nin\n"
		near, ok := impl.CodeMend(w)
		if ok {
			mended++
			checkOutput(t, script, "ok\nok\nyes\n"+lastTold(near))
		} else {
			others++
			checkOutput(t, script, "ok\nno\nnot\n"+lastTold(w))
		}
		checkScript(t, script)
	}
	if mended < 100 || others < 40 {
		t.Errorf("%d words are mended and %d are not", mended, others)
	}
}

func TestPromise84Code(t *testing.T) {
	for m, w := range codeTold() {
		checkOutput(t, "code "+strconv.Itoa(m)+"\nin\nmend\n", "ok\nyes\nok\n"+lastTold(w))
	}
	checkOutput(t, "code 4096\nin\nmend\n", "no\nyes\nok\nword 0\n")
}

func TestCommandsToldOutright(t *testing.T) {
	outputs := map[string]string{
		"show\nplaces\nweight\nscores\nin\n":                                  textOf(0) + "\n\n0\n0 0 0 0 0 0\nyes\nword 0\n",
		"mend\nnear\nsextet\nmeet\n":                                          "ok\n0\nno\nno\nword 0\n",
		"set 255\nshow\nplaces\nweight\nscores\nin\n":                         "ok\n" + fullText + "\n0 1 2 3 4 5 6 7\n8\n0 0 0 0 0 0\nyes\nword 255\n",
		"set 255\nmend\nnear\nsextet\nmeet\n":                                 "ok\nok\n0\nno\n30 0 448 0 280 0 0 0 1\nword 255\n",
		"set 15\nin\nmend\nnear\nsextet\nmeet\n":                              "ok\nnot\nno\n4\n15 240 3840 61440 983040 15728640\nno\nword 15\n",
		"set 23\nscores\nsextet\n":                                            "ok\n3 0 0 0 0 0\n23 232 1589760 2392320 4331520 8463360\nword 23\n",
		"set 254\nin\nnear\nmend\nin\n":                                       "ok\nnot\n1\nok\nyes\nword 255\n",
		"set 16777215\nshow\nweight\n":                                        "ok\nxxxxxx/xxxxxx/xxxxxx/xxxxxx\n24\nword 16777215\n",
		"set 16777215\nset 16777216\n":                                        "ok\nno\nword 16777215\n",
		"set 0\nset 5\nset 00000007\nset 000000009\n":                         "ok\nok\nok\nno\nword 7\n",
		"set 255\nadd 255\n":                                                  "ok\nok\nword 0\n",
		"set 12\nadd 10\nadd 0\nadd 16777216\n":                               "ok\nok\nok\nno\nword 6\n",
		"add 16777215\nadd 1\n":                                               "ok\nok\nword 16777214\n",
		"read x...../.x..../....../.....x\n":                                  "ok\nword 8388641\n",
		"set 5\nread ....../....../....../......\n":                           "ok\nok\nword 0\n",
		"set 5\nread \nread x\nread\n":                                        "ok\nno\nno\nwhat\nword 5\n",
		"code 128\ncode 4096\n":                                               "ok\nno\nword 255\n",
		"code 64\n":                                                           "ok\nword 15658721\n",
		"line 0\nline 23\n":                                                   "ok\nno\nword 8729438\n",
		"octad 0 1 2 3 4\noctad 0 0 1 2 3\noctad 0 1 2 3 24\noctad 0 1 2 3\n": "ok\nno\nno\nno\nword 255\n",
		"octad 23 22 21 20 19\nshow\n":                                        "ok\n....xx/....xx/....xx/....xx\nword 16711680\n",
		"set 5\n\nset 6\n \n":                                                 "ok\nwhat\nok\nwhat\nword 6\n",
		"set\nset \nset  \nset  5\nset 5 \n set 5\nset 5 5\n":                 "what\nno\nno\nno\nno\nwhat\nno\nword 0\n",
		"show \nshow  \n show\nshow 0\nplaces\n":                              "what\nwhat\nwhat\nwhat\n\nword 0\n",
	}
	for script, want := range outputs {
		checkOutput(t, script, want)
		if told := outputTold(script); told != want {
			t.Errorf("the definition tells %q for %q, not %q", told, script, want)
		}
	}
}

func TestEachCommandAtManyWords(t *testing.T) {
	answers := map[string]map[bool]bool{}
	for _, w := range benchWords() {
		for _, line := range append(bareNames(), goodLines()...) {
			checkScript(t, setting(w)+line+"\nshow\n")
			_, answer := answerTold(w, line)
			name, _, _ := strings.Cut(line, " ")
			if answers[name] == nil {
				answers[name] = map[bool]bool{}
			}
			answers[name][answer == "no"] = true
		}
	}
	for _, name := range append(bareNames(), restNames()...) {
		fails := name == "mend" || name == "sextet" || name == "meet"
		if !answers[name][false] || answers[name][true] != fails {
			t.Errorf("%s succeeds and fails at these words: %v", name, answers[name])
		}
	}
}

func TestAddOfTheWordItself(t *testing.T) {
	for _, w := range someWords() {
		checkOutput(t, setting(w)+"add "+strconv.Itoa(w)+"\n", "ok\nok\nword 0\n")
		checkOutput(t, setting(w)+"add 4321\nadd 4321\n", "ok\nok\nok\n"+lastTold(w))
	}
}

func TestReadOfTextsThatAreShown(t *testing.T) {
	for _, w := range slices.Concat(someWords(), benchWords()) {
		text, _ := impl.WordText(w)
		checkOutput(t, "set 4321\nread "+text+"\nshow\n", "ok\nok\n"+text+"\n"+lastTold(w))
	}
}

func TestLineAndOctadOfAllPlaces(t *testing.T) {
	for i := range 40 {
		checkScript(t, "set 4321\nline "+strconv.Itoa(i)+"\n")
		for k := range 5 {
			list := []int{1, 2, 4, 10, 21}
			list[k] = i
			checkScript(t, "set 4321\noctad "+joined(list)+"\n")
		}
	}
}

func TestOtherLinesChangeNothing(t *testing.T) {
	for _, line := range otherLines() {
		for _, w := range []int{0, 255, 4321, impl.WordMax} {
			checkStays(t, w, line, "what")
		}
	}
}

func TestFailuresChangeNothing(t *testing.T) {
	for name, rests := range failingRests() {
		for _, told := range rests {
			for _, w := range []int{0, 255, 4321} {
				checkStays(t, w, name+" "+told, "no")
			}
		}
	}
	for _, w := range []int{15, 23, 0xF00000, 0x800007} {
		checkStays(t, w, "mend", "no")
		checkStays(t, w, "meet", "no")
	}
	for _, w := range []int{0, 1, 7, 31, 254, 255, impl.WordMax - 15, impl.WordMax} {
		checkStays(t, w, "sextet", "no")
	}
	for _, w := range []int{0, 1, 15, 254, 511, 127, 0xEEEEE1, impl.WordMax - 255, impl.WordMax} {
		checkStays(t, w, "meet", "no")
	}
}

func TestAskingChangesNothing(t *testing.T) {
	for _, w := range benchWords() {
		for _, name := range bareNames() {
			if name == "mend" {
				continue
			}
			_, want := answerTold(w, name)
			checkStays(t, w, name, want)
		}
	}
}

// TestEachOtherByte puts each byte at each position of a line and behind it.
func TestEachOtherByte(t *testing.T) {
	for _, line := range []string{"show", "in", "set 5", "add 16777215", "code 64", "line 0", "octad 0 1 2 3 14", "read " + fullText} {
		for i := range len(line) + 1 {
			for b := range 256 {
				behind := ""
				if i < len(line) {
					behind = line[i+1:]
				}
				checkScript(t, "set 7\n"+line[:i]+string([]byte{byte(b)})+behind+"\nplaces\n")
			}
		}
	}
}

func TestNumbersOfAllLengths(t *testing.T) {
	for n := 1; n <= 30; n++ {
		for _, digit := range []string{"0", "1", "9"} {
			checkScript(t, "set 7\nset "+strings.Repeat(digit, n)+"\n")
			checkScript(t, "set 7\nline "+strings.Repeat("0", n-1)+digit+"\n")
			checkScript(t, "set 7\noctad 2 3 4 5 "+strings.Repeat("0", n-1)+digit+"\n")
		}
	}
}

func TestEachScriptBeginsWithTheWord0(t *testing.T) {
	for range 3 {
		checkOutput(t, "places\nset 255\n", "\nok\nword 255\n")
		checkOutput(t, "", "word 0\n")
		checkOutput(t, "set 254\nmend\nmeet\nzzz\nset x\n", "ok\nok\n30 0 448 0 280 0 0 0 1\nwhat\nno\nword 255\n")
	}
}
