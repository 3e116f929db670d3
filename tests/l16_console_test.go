package tests

import (
	"fmt"
	"regexp"
	"slices"
	"strconv"
	"strings"
	"testing"

	"loop.example/g00130/impl"
)

// The forms of lines, as the document shows them.
var (
	plainForm  = regexp.MustCompile(`^[ -~]{0,600}$`)
	partForm   = regexp.MustCompile(`[^ ]+`)
	passedForm = regexp.MustCompile(`^ *(#.*)?$`)
	webForm    = regexp.MustCompile(`^ *web +(0|[1-9][0-9]*) +(0|[1-9][0-9]*) *$`)
	askForm    = regexp.MustCompile(`^ *(cut +)?(add|take|together|move) +(0|[1-9][0-9]*) +(0|[1-9][0-9]*) +(0|[1-9][0-9]*) *$`)
	placeForm  = regexp.MustCompile(`^ *(cut +)?(deliver|drop|copy|tick|down|up) +(0|[1-9][0-9]*) *$`)
)

// readByWords is false of numbers above the greatest that is read.
func readByWords(texts ...string) ([]int, bool) {
	numbers := []int{}
	for _, text := range texts {
		number, err := strconv.ParseInt(text, 10, 64)
		if err != nil || number > 1000000000 {
			return nil, false
		}
		numbers = append(numbers, int(number))
	}
	return numbers, true
}

func webLineByWords(line string) (int, int, bool) {
	found := webForm.FindStringSubmatch(line)
	if found == nil {
		return 0, 0, false
	}
	x, ok := readByWords(found[1:]...)
	if !ok || x[0] < 1 || x[0] > 12 || x[1] < 1 || x[1] > 3 {
		return 0, 0, false
	}
	return x[0], x[1], true
}

func askLineByWords(found []string) (impl.Event, bool) {
	x, ok := readByWords(found[3:]...)
	if !ok || x[0] < 1 || slices.Max(x) > 100000 {
		return impl.Event{}, false
	}
	op := map[string]int{"add": 1, "take": 2, "together": 3, "move": 4}[found[2]]
	return impl.Event{Kind: 1, Ask: askOf(x[0], op, x[1], x[2]), Cut: found[1] != ""}, true
}

func eventLineByWords(shards int, line string) (impl.Event, bool) {
	if found := askForm.FindStringSubmatch(line); found != nil {
		return askLineByWords(found)
	}
	found := placeForm.FindStringSubmatch(line)
	if found == nil {
		return impl.Event{}, false
	}
	x, ok := readByWords(found[3])
	if !ok {
		return impl.Event{}, false
	}
	e := impl.Event{Kind: map[string]int{"deliver": 2, "drop": 3, "copy": 4, "tick": 5, "down": 6, "up": 7}[found[2]], Cut: found[1] != ""}
	if e.Kind <= 4 {
		e.At = x[0]
		return e, true
	}
	e.Node = x[0]
	return e, e.Node <= shards
}

func linesByWords(text string) []string {
	lines := strings.SplitAfter(text, "\n")
	if lines[len(lines)-1] == "" {
		lines = lines[:len(lines)-1]
	}
	return lines
}

func scriptByWords(text string) (n, shards int, events []impl.Event, fault int) {
	lines := linesByWords(text)
	if len(text) > 4000 || len(lines) > 100 {
		return 0, 0, nil, -1
	}
	for at, line := range lines {
		line = strings.TrimSuffix(line, "\n")
		ok := plainForm.MatchString(line) && len(partForm.FindAllString(line, -1)) <= 10
		switch {
		case !ok || passedForm.MatchString(line):
		case n == 0:
			n, shards, ok = webLineByWords(line)
		default:
			var e impl.Event
			e, ok = eventLineByWords(shards, line)
			events = append(events, e)
			ok = ok && len(events) <= 70
		}
		if !ok {
			return 0, 0, nil, at + 1
		}
	}
	if n == 0 {
		return 0, 0, nil, 1
	}
	return n, shards, events, 0
}

func outputByWords(w impl.World, numbers []int) string {
	out := ""
	if len(numbers) > 0 {
		out = strings.Trim(fmt.Sprint(numbers), "[]") + "\n"
	}
	for _, c := range w.Calls {
		word := []string{"open", "yes", "no", "bad"}[c.Say]
		out += fmt.Sprintf("%d %s\n", c.Ask.Id, word)
	}
	count := 0
	for _, times := range keptByWords(w) {
		count += times
	}
	return out + fmt.Sprintf("edges %d\n", count)
}

func consoleByWords(text string) string {
	n, shards, events, fault := scriptByWords(text)
	if fault != 0 {
		return fmt.Sprintf("fault %d\n", fault)
	}
	return outputByWords(lifeByWords(n, shards, events))
}

func sameEvent(a, b impl.Event) bool {
	return a.Kind == b.Kind && a.Node == b.Node && a.At == b.At && a.Ask == b.Ask && a.Cut == b.Cut && slices.Equal(a.Left, b.Left)
}

func sameEvents(a, b []impl.Event) bool { return slices.EqualFunc(a, b, sameEvent) }

func wantScript(t *testing.T, why, text string, n, shards int, events ...impl.Event) {
	t.Helper()
	wordN, wordShards, wordEvents, wordFault := scriptByWords(text)
	if wordN != n || wordShards != shards || !sameEvents(wordEvents, events) || wordFault != 0 {
		t.Fatalf("%s: by the words %q is %d, %d, %s, %d; the test wants %d, %d, %s, 0", why, text, wordN, wordShards, tell(wordEvents), wordFault, n, shards, tell(events))
	}
	gotN, gotShards, got, fault := impl.ReadScript(text)
	if gotN != n || gotShards != shards || !sameEvents(got, events) || fault != 0 {
		t.Fatalf("%s: ReadScript(%q) = %d, %d, %s, %d; want %d, %d, %s, 0", why, text, gotN, gotShards, tell(got), fault, n, shards, tell(events))
	}
}

// wantFault holds Console to the same fault.
func wantFault(t *testing.T, why, text string, line int) {
	t.Helper()
	if _, _, _, fault := scriptByWords(text); fault != line {
		t.Fatalf("%s: by the words the fault of %q is %d; the test wants %d", why, text, fault, line)
	}
	n, shards, events, fault := impl.ReadScript(text)
	if n != 0 || shards != 0 || len(events) != 0 || fault != line {
		t.Fatalf("%s: ReadScript(%q) = %d, %d, %s, %d; want 0, 0, nothing, %d", why, text, n, shards, tell(events), fault, line)
	}
	if out := impl.Console(text); out != fmt.Sprintf("fault %d\n", line) {
		t.Fatalf("%s: Console(%q) = %q; want the fault %d", why, text, out, line)
	}
}

func wantConsole(t *testing.T, why, text, want string) {
	t.Helper()
	if words := consoleByWords(text); words != want {
		t.Fatalf("%s: by the words %q tells %q; the test wants %q", why, text, words, want)
	}
	if got := impl.Console(text); got != want {
		t.Fatalf("%s: Console(%q) = %q; want %q", why, text, got, want)
	}
}

// wantRead holds both functions to the words, at any text; it answers the fault.
func wantRead(t *testing.T, why, text string) int {
	t.Helper()
	n, shards, events, fault := scriptByWords(text)
	if fault != 0 {
		wantFault(t, why, text, fault)
		return fault
	}
	wantScript(t, why, text, n, shards, events...)
	wantConsole(t, why, text, consoleByWords(text))
	return 0
}

func TestNamesOfConsoles(t *testing.T) {
	if impl.MaxScript != 4000 || impl.MaxLines != 100 {
		t.Errorf("MaxScript is %d, MaxLines %d", impl.MaxScript, impl.MaxLines)
	}
}

func TestReadScriptByHand(t *testing.T) {
	text := "# a life\n" +
		"\n" +
		"web 4 2\n" +
		"add 1 0 2\n" +
		"  cut   take 2 3 1  \n" +
		"#tick 0\n" +
		"together 100000 100000 7\n" +
		"move 4 0 2\n" +
		"deliver 5\n" +
		"cut drop 1000000000\n" +
		"copy 6\n" +
		"   \n" +
		"tick 1\n" +
		"cut down 2\n" +
		"up 1\n"
	events := []impl.Event{
		{Kind: impl.EvAsk, Ask: impl.Ask{Id: 1, Op: impl.AskAdd, A: 0, B: 2}},
		{Kind: impl.EvAsk, Ask: impl.Ask{Id: 2, Op: impl.AskTake, A: 3, B: 1}, Cut: true},
		{Kind: impl.EvAsk, Ask: impl.Ask{Id: 100000, Op: impl.AskTogether, A: 100000, B: 7}},
		{Kind: impl.EvAsk, Ask: impl.Ask{Id: 4, Op: impl.AskMove, A: 0, B: 2}},
		{Kind: impl.EvDeliver, At: 5},
		{Kind: impl.EvDrop, At: 1000000000, Cut: true},
		{Kind: impl.EvCopy, At: 6},
		{Kind: impl.EvTick, Node: 1},
		{Kind: impl.EvDown, Node: 2, Cut: true},
		{Kind: impl.EvUp, Node: 1},
	}
	wantScript(t, "with the last byte 10", text, 4, 2, events...)
	wantScript(t, "without it", text[:len(text)-1], 4, 2, events...)
	wantFault(t, "without the last number", text[:len(text)-3], 15)
}

func TestLastLines(t *testing.T) {
	for _, end := range []string{"", "\n", "\n\n", "\n ", " ", " \n", "\n#", "\n#\n", "\n # a b"} {
		wantScript(t, "a web line", "web 5 3"+end, 5, 3)
		wantScript(t, "an event", "web 5 3\ntick 3"+end, 5, 3, evTick(3))
		wantScript(t, "a cut one", "web 5 3\ncut tick 3"+end, 5, 3, evCut(evTick(3)))
		wantFault(t, "a fault", "web 5 3\ntick 4"+end, 2)
		wantFault(t, "a fault of the web line", "web 5 4"+end, 1)
	}
}

// linesPassedOver are of all sorts, none of them with its byte 10.
func linesPassedOver() []string {
	return []string{
		"", " ", "     ", strings.Repeat(" ", 600),
		"#", "##", " #", "   # ", "# a", "#a", "#web 4 2", "# web 0 0", "#cut", " # add 1 0 1", "#add 1 0 1", "# 1 2 3 4 5 6 7 8 9",
		"# ~!\"$%&'()*+,-./:;<=>?@[]^_`{|}", "#" + strings.Repeat("x", 599), "# " + strings.Repeat("y", 598), "## ## #",
	}
}

func TestLinesThatArePassedOver(t *testing.T) {
	for _, line := range linesPassedOver() {
		for _, count := range []int{1, 2, 3} {
			over := strings.Repeat(line+"\n", count)
			wantScript(t, "ahead of the web line", over+"web 4 2\ntick 0\n", 4, 2, evTick(0))
			wantScript(t, "behind it", "web 4 2\n"+over+"tick 0\n", 4, 2, evTick(0))
			wantScript(t, "between events", "web 4 2\ntick 0\n"+over+"cut up 2\n", 4, 2, evTick(0), evCut(evUp(2)))
			wantScript(t, "behind all", "web 4 2\ntick 0\n"+over, 4, 2, evTick(0))
			wantScript(t, "behind all, without the last byte 10", "web 4 2\ntick 0\n"+over[:len(over)-1], 4, 2, evTick(0))
			wantFault(t, "alone", over, 1)
			wantFault(t, "alone, without the last byte 10", over[:len(over)-1], 1)
			wantFault(t, "ahead of a fault", over+"web 4 2\ntock 0\n", 2+count)
			wantFault(t, "ahead of what is no web line", over+"tick 0\nweb 4 2\n", 1+count)
		}
	}
	wantFault(t, "all of them alone", strings.Join(linesPassedOver(), "\n"), 1)
}

func TestScriptsWithoutAWebLine(t *testing.T) {
	for _, text := range []string{"", "\n", " ", "\n\n\n", "#", "# web 4 2\n", "\n \n#a\n", strings.Repeat("\n", 100), strings.Repeat("#\n", 100)} {
		wantFault(t, "no web line", text, 1)
	}
	for at, text := range []string{"add 1 0 1", "\ntick 0\n", "#\n \ncut tick 0\n\n", "\n\n\nweb\n", "\n\n\n\n\x01"} {
		wantFault(t, "something else in its place", text, 1+at)
		wantFault(t, "something else ahead of it", text+"\nweb 4 2\n", 1+at)
	}
}

// refusedLines has lines that PartsOf refuses; most of them would be passed over, or be an event, if it did not.
func refusedLines() []string {
	lines := []string{
		strings.Repeat(" ", 601), "#" + strings.Repeat("x", 600), "tick 0" + strings.Repeat(" ", 595),
		"# 1 2 3 4 5 6 7 8 9 10", "1 2 3 4 5 6 7 8 9 10 11", "#\r", "\r", "tick 0\r", "web 4 2\r", "# caf\xc3\xa9", "\xe2\x80\xa8", "#\xff", "\x00", " \t", "\ttick 0", "tick\t0", "tick 0\x7f",
		"\xc2\x85", "\xc2\xa0", "#\xf0\x9f\x98\x80", "#\xe2\x80", "#\xc2", "\xef\xbb\xbfweb 4 2", "tick \xd9\xa3", "tick\u00a00", "\v", "\f",
	}
	for b := range 256 {
		if (b < 32 || b > 126) && b != 10 {
			lines = append(lines, "# "+string([]byte{byte(b)}), string([]byte{byte(b)})+"#", "tick 0"+string([]byte{byte(b)}))
		}
	}
	return lines
}

func TestLinesThatAreRefused(t *testing.T) {
	for _, line := range refusedLines() {
		wantFault(t, "ahead of the web line", line+"\nweb 4 2\ntick 0\n", 1)
		wantFault(t, "ahead of it, behind others", "\n# a\n"+line+"\nweb 4 2\ntick 0\n", 3)
		wantFault(t, "behind it", "web 4 2\n"+line+"\ntick 0\n", 2)
		wantFault(t, "between events", "web 4 2\ntick 0\n\n"+line+"\ntick 0\n", 4)
		wantFault(t, "at the end", "web 4 2\ntick 0\n"+line, 3)
		wantFault(t, "alone", line, 1)
		wantFault(t, "behind lines that are passed over, with no web line", "\n#\n\n"+line+"\n", 4)
	}
	wantScript(t, "600 bytes", "web 4 2\ntick 0"+strings.Repeat(" ", 594)+"\n"+strings.Repeat(" ", 594)+"tick 1", 4, 2, evTick(0), evTick(1))
	wantScript(t, "all bytes of a line", "#"+everyByte()[32:127]+"\nweb 4 2", 4, 2)
}

// filled has the bytes that are asked for, by lines that are passed over behind the text.
func filled(text string, size int) string {
	for len(text) < size {
		text += "#" + strings.Repeat(".", min(size-len(text), 600)-1)
		if len(text) < size {
			text = text[:len(text)-1] + "\n"
		}
	}
	return text
}

func TestBytesOfScripts(t *testing.T) {
	for _, text := range []string{"web 4 2\ntick 0\n", "\nweb 4 2\n\ntick 0\n\n", "#\n#\n#\nweb 4 2\ntick 0\n"} {
		for _, size := range []int{3000, 3998, 3999, 4000} {
			full := filled(text, size)
			if len(full) != size {
				t.Fatalf("%d bytes, not %d", len(full), size)
			}
			wantScript(t, "long", full, 4, 2, evTick(0))
			wantScript(t, "long, with a byte 10 at the end", full[:size-1]+"\n", 4, 2, evTick(0))
		}
		for _, size := range []int{4001, 4002, 5000, 100000} {
			wantFault(t, "too long", filled(text, size), -1)
			wantFault(t, "too long by blanks", text+strings.Repeat(" ", size-len(text)), -1)
		}
		wantFault(t, "too long by the last byte 10", filled(text, 4000)+"\n", -1)
	}
	wantFault(t, "one line of 4000", strings.Repeat(" ", 4000), 1)
	wantFault(t, "one line of 4001", strings.Repeat(" ", 4001), -1)
	wantFault(t, "bytes, not runes: 4000", strings.Repeat("\u00e9", 2000), 1)
	wantFault(t, "bytes, not runes: 4002", strings.Repeat("\u00e9", 2001), -1)
}

func TestLinesOfScripts(t *testing.T) {
	empty := strings.Repeat("\n", 98)
	wantScript(t, "100 lines", "web 4 2\n"+empty+"tick 0\n", 4, 2, evTick(0))
	wantScript(t, "100 lines, the last without a byte 10", "web 4 2\n"+empty+"tick 0", 4, 2, evTick(0))
	wantScript(t, "99 lines and a blank one", "web 4 2\n"+empty+" ", 4, 2)
	wantScript(t, "the web line is the 100th", empty+"\nweb 4 2\n", 4, 2)
	wantFault(t, "100 lines with a fault at the end", "web 4 2\n"+empty+"tick", 100)
	for _, more := range []string{"\n", " ", "#", "# a\n", "tick 0", "\x00"} {
		wantFault(t, "101 lines", "web 4 2\n"+empty+"tick 0\n"+more, -1)
		wantFault(t, "101 lines that are passed over, or not", empty+"\n\n"+more, -1)
	}
	for _, odd := range []string{"\xc2\n", "\xe2\x80\n", "\xf0\x9f\x98\n", "\xff\n", "\x80\n", "\xe0\x8a\n", "\x00\n", "\r\n", "\u00e9\n", "\ufffd\n", "\u010a\n", "\u0a0a\n"} {
		wantFault(t, "each line ends at its byte 10", strings.Repeat(odd, 100), 1)
		wantFault(t, "each line ends at its byte 10", strings.Repeat(odd, 101), -1)
		wantFault(t, "each line ends at its byte 10", strings.Repeat("\n", 50)+odd+"\n\n", 51)
	}
	for _, odd := range []string{"\r", "\v", "\f", "\u0085", "\u2028", "\u2029", "\xc0\x8a", "\x00", "\u010a"} {
		wantFault(t, "no line ends there", strings.Repeat(odd, 300), 1)
		wantFault(t, "no line ends there", "\nweb 4 2\n#"+odd+"#", 3)
	}
}

func TestEventsBeyondMaxLife(t *testing.T) {
	events := slices.Repeat([]impl.Event{evTick(0), evCut(evCopy(3))}, 35)
	life := strings.Repeat("tick 0\ncut copy 3\n", 35)
	wantScript(t, "70 events", "web 4 2\n"+life, 4, 2, events...)
	wantScript(t, "70 events and 29 lines that are passed over", "#\nweb 4 2\n"+life+strings.Repeat("\n", 28), 4, 2, events...)
	for _, line := range []string{"tick 0", "cut tick 0", "add 1 0 1", "tock", "web 4 2", "\x00"} {
		wantFault(t, "the 71st", "web 4 2\n"+life+line, 72)
		wantFault(t, "the 71st, behind lines that are passed over", "\nweb 4 2\n#\n"+life+"#\n \n"+line+"\n#\n", 76)
		wantFault(t, "the 71st, not the 72nd", "web 4 2\n"+life+"tick 0\n"+line, 72)
	}
	wantScript(t, "69 events", "web 4 2\n"+life[:len(life)-len("cut copy 3\n")], 4, 2, events[:69]...)
}

// noNumbers are not read as numbers; none has a blank in it, and PartsOf takes each.
func noNumbers() []string {
	return []string{
		"+1", "-1", "-0", "+0", "01", "00", "001", "1000000001", "9999999999", "10000000000", "9223372036854775808", "18446744073709551617", "99999999999999999999999",
		"1a", "a", "a1", "0x1", "1.", "1.0", ".1", "1e0", "1_0", "1,0", "1,", "#", "#1", "1#", "-", "+", "--1", "one", "N", "cut", "tick", "\"1\"", "1;", "~",
	}
}

func TestWebLines(t *testing.T) {
	for n := range 16 {
		for shards := range 7 {
			text := fmt.Sprintf("web %d %d\n", n, shards)
			if n >= 1 && n <= 12 && shards >= 1 && shards <= 3 {
				wantScript(t, "a web line", text, n, shards)
				wantScript(t, "with blanks", "  "+strings.ReplaceAll(text[:len(text)-1], " ", "   ")+"  \n", n, shards)
				wantScript(t, "with an event", text+fmt.Sprintf("tick %d\n", shards), n, shards, evTick(shards))
				wantFault(t, "with a node above the shards", text+fmt.Sprintf("tick %d\n", shards+1), 2)
				wantFault(t, "twice", text+text, 2)
				continue
			}
			wantFault(t, "a web line that WorldNew does not take", text, 1)
			wantFault(t, "one, with lines ahead", "\n#\n"+text+"web 4 2\n", 3)
		}
	}
	for _, text := range []string{
		"web", "web 4", "web 4 2 1", "web 4 2 0", "web 4 2 #", "web 4 2 # why", "web 4 2 tick 0", "web 4 2 1 2 3 4 5 6 7", "web4 2", "web 42", "web4 2 1", "webs 4 2", "we 4 2", "eb 4 2",
		"Web 4 2", "WEB 4 2", "weB 4 2", "4 2", "4 2 web", "4 web 2", "cut web 4 2", "web cut 4 2", "web web 4 2", "web #4 2", "web 100000 2", "web 1000000000 1000000000", "web 4 1000000000",
	} {
		wantFault(t, "no web line", text, 1)
		wantFault(t, "no web line, with lines ahead", "\n\n"+text+"\n\nweb 4 2\n", 3)
	}
	for _, number := range noNumbers() {
		wantFault(t, "N is none", "web "+number+" 2\n", 1)
		wantFault(t, "SHARDS is none", "web 4 "+number+"\n", 1)
	}
}

func TestSecondWebLines(t *testing.T) {
	for _, line := range []string{"web 4 2", "web 5 3", "web 0 0", "web", "cut web 4 2", " web 4 2 "} {
		wantFault(t, "at once", "web 4 2\n"+line, 2)
		wantFault(t, "behind an event", "web 4 2\n\ntick 0\n"+line+"\ntick 0", 4)
	}
	wantScript(t, "one that is passed over", "web 4 2\n#web 5 3\n# web 5 3\n", 4, 2)
}

// wordOfScript has the event that a word makes of numbers.
type wordOfScript struct {
	word  string
	count int
	event func(x []int) impl.Event
}

func wordsOfScripts() []wordOfScript {
	ask := func(op int) func(x []int) impl.Event {
		return func(x []int) impl.Event { return evAsk(x[0], op, x[1], x[2]) }
	}
	one := func(event func(x int) impl.Event) func(x []int) impl.Event {
		return func(x []int) impl.Event { return event(x[0]) }
	}
	return []wordOfScript{
		{"add", 3, ask(impl.AskAdd)}, {"take", 3, ask(impl.AskTake)}, {"together", 3, ask(impl.AskTogether)}, {"move", 3, ask(impl.AskMove)},
		{"deliver", 1, one(evDeliver)}, {"drop", 1, one(evDrop)}, {"copy", 1, one(evCopy)},
		{"tick", 1, one(evTick)}, {"down", 1, one(evDown)}, {"up", 1, one(evUp)},
	}
}

func lineOf(word string, numbers []int) string {
	line := word
	for _, number := range numbers {
		line += fmt.Sprintf(" %d", number)
	}
	return line
}

func TestEachWord(t *testing.T) {
	for _, w := range wordsOfScripts() {
		for _, x := range [][]int{{1, 2, 3}, {3, 1, 2}, {2, 0, 0}} {
			line, want := lineOf(w.word, x[:w.count]), w.event(x)
			wantScript(t, "a word", "web 4 3\n"+line, 4, 3, want)
			wantScript(t, "a word with cut", "web 4 3\ncut "+line, 4, 3, evCut(want))
			wantScript(t, "with blanks", "web 4 3\n  cut  "+strings.ReplaceAll(line, " ", "    ")+"   ", 4, 3, evCut(want))
			wantScript(t, "one with cut, one without", "web 4 3\ncut "+line+"\n"+line+"\n", 4, 3, evCut(want), want)
			wantConsole(t, "a word", "web 4 3\n"+line, consoleByWords("web 4 3\n"+line))
			for _, wrong := range []string{"cut cut " + line, "cut", "cut ", line + " cut", "cut" + line, "CUT " + line, "Cut " + line, "cut # " + line, "cut 1 " + line, line + " #", line + " # why", line + " " + line} {
				wantFault(t, "no event", "web 4 3\n\n"+wrong+"\n"+line, 3)
			}
			wantFault(t, "ahead of the web line", line+"\nweb 4 3\n", 1)
			wantFault(t, "ahead of the web line", "\ncut "+line+"\nweb 4 3\n", 2)
		}
	}
}

func TestWordsWithOtherCountsOfNumbers(t *testing.T) {
	for _, w := range wordsOfScripts() {
		for count := range 12 {
			line := lineOf(w.word, slices.Repeat([]int{1}, count))
			for _, cut := range []string{"", "cut "} {
				if count == w.count {
					want := w.event([]int{1, 1, 1})
					want.Cut = cut != ""
					wantScript(t, "as many as it takes", "web 4 3\n"+cut+line, 4, 3, want)
					continue
				}
				wantFault(t, "too few or too many numbers", "web 4 3\n"+cut+line, 2)
				wantFault(t, "too few or too many numbers, between events", "web 4 3\ntick 0\n#\n"+cut+line+"\ntick 0\n", 4)
			}
		}
	}
}

func TestNumbersThatAreNotRead(t *testing.T) {
	for _, w := range wordsOfScripts() {
		for at := range w.count {
			for _, number := range noNumbers() {
				parts := strings.Fields(lineOf(w.word, slices.Repeat([]int{1}, w.count)))
				parts[1+at] = number
				wantFault(t, "no number", "web 4 3\n"+strings.Join(parts, " "), 2)
				wantFault(t, "no number, with cut", "web 4 3\ntick 0\ncut "+strings.Join(parts, " ")+"\n", 3)
			}
		}
	}
}

// Numbers that are read, but make no event that is EventOk.
func TestNumbersOfEvents(t *testing.T) {
	for _, w := range wordsOfScripts() {
		for at := range w.count {
			for _, number := range []int{0, 1, 2, 3, 4, 9, 12, 99, 99999, 100000, 100001, 1000000, 999999999, 1000000000} {
				for shards := 1; shards <= 3; shards++ {
					x := []int{1, 1, 1}
					x[at] = number
					text, want := fmt.Sprintf("web 4 %d\n%s", shards, lineOf(w.word, x[:w.count])), w.event(x)
					right := want.Node <= shards && (w.count == 1 || number <= 100000 && (number > 0 || at > 0))
					if right != impl.EventOk(shards, want) {
						t.Fatalf("EventOk of %s is not %v", tell(want), right)
					}
					if right {
						wantScript(t, "an event that is EventOk", text, 4, shards, want)
					} else {
						wantFault(t, "one that is not", text, 2)
						wantFault(t, "one that is not, behind one that is", fmt.Sprintf("web 4 %d\ntick 0\n\ncut %s\n", shards, lineOf(w.word, x[:w.count])), 4)
					}
				}
			}
		}
	}
}

func TestWordsThatAreNone(t *testing.T) {
	words := []string{
		"a", "ad", "adds", "ask", "Add", "aDD", "add1", "add,", "add#", "-add", "+", "rest", "run", "console", "edges", "fault", "yes", "lost", "left", "cut", "web", "0", "1", "~", "\"add\"", "upp", "u", "tic", "togethe", "together:",
		"cut#", "!#", "deliverdrop",
	}
	for _, w := range wordsOfScripts() {
		words = append(words, strings.ToUpper(w.word), strings.ToUpper(w.word[:1])+w.word[1:], w.word[1:], w.word[:len(w.word)-1], w.word+w.word, w.word+".", w.word+"-1", w.word+"1")
	}
	for _, word := range words {
		for count := range 5 {
			line := lineOf(word, slices.Repeat([]int{1}, count))
			wantFault(t, "no word", "web 4 3\n"+line, 2)
			wantFault(t, "no word, with cut", "web 4 3\n\ncut "+line+"\n", 3)
			if word != "web" {
				wantFault(t, "no word, in the place of the web line", line, 1)
			}
		}
	}
}

func TestTheFirstFaultCounts(t *testing.T) {
	faults := []string{"tock 0", "tick 9", "add 0 0 0", "web 4 2", "\x00", "# 1 2 3 4 5 6 7 8 9 10", "cut", strings.Repeat(" ", 601)}
	for _, one := range faults {
		for _, other := range faults {
			wantFault(t, "two", "\nweb 4 2\n"+one+"\n"+other+"\n", 3)
			wantFault(t, "two with lines between", "# a\nweb 4 2\ntick 0\n \n"+one+"\ntick 0\n"+other, 5)
			wantFault(t, "two, and no web line", "\n\n\x01\n"+one+"\n"+other, 3)
			wantFault(t, "too many lines beside them", one+"\n"+other+strings.Repeat("\n", 100), -1)
			wantFault(t, "too many bytes beside them", one+"\n"+filled(other+"\n", 4001), -1)
		}
	}
	wantFault(t, "too many lines, with nothing wrong in any", "web 4 2\n"+strings.Repeat("\n", 100), -1)
	wantFault(t, "too many lines, with no web line", strings.Repeat("\n", 101), -1)
	wantFault(t, "too many events and too many lines", "web 4 2\n"+strings.Repeat("tick 0\n", 100), -1)
	wantFault(t, "a fault of the web line ahead of events that would be too many", "web 0 2\n"+strings.Repeat("tick 0\n", 90), 1)
	wantFault(t, "a fault far behind", "web 4 2\n"+strings.Repeat("\n", 97)+"tock\ntick 9", 99)
}

func TestConsoleByHand(t *testing.T) {
	for _, c := range []struct{ why, text, want string }{
		{"no events", "web 4 2", "edges 0\n"},
		{"no events, with lines that are passed over", "#\n\nweb 1 1\n#\n", "edges 0\n"},
		{"one event", "web 4 2\ntick 0\n", "0\nedges 0\n"},
		{"nobody is there", "web 4 2\ndeliver 0\ndrop 0\ncopy 0\nup 0\nup 1\n", "1 1 1 1 1\nedges 0\n"},
		{"an edge of two shards is the head's", "web 4 2\nadd 1 0 1\n", "0\n1 yes\nedges 1\n"},
		{"and is there already", "web 4 2\nadd 1 0 1\nadd 2 1 0\n", "0 0\n1 yes\n2 no\nedges 1\n"},
		{"and goes", "web 4 2\nadd 1 0 1\ntake 2 1 0\ntake 3 0 1\n", "0 0 0\n1 yes\n2 yes\n3 no\nedges 0\n"},
		{"one of one shard is open", "web 4 2\nadd 7 0 2\n", "0\n7 open\nedges 0\n"},
		{"and is on its way", "web 4 2\nadd 7 0 2\ntick 0\n", "0 0\n7 open\nedges 0\n"},
		{"and the shard has it", "web 4 2\nadd 7 0 2\ntick 0\ndeliver 0\n", "0 0 0\n7 open\nedges 1\n"},
		{"and it is told", "web 4 2\nadd 7 0 2\ntick 0\ndeliver 0\ndeliver 0\n", "0 0 0 0\n7 yes\nedges 1\n"},
		{"bad questions", "web 4 2\nadd 1 0 0\ntake 2 3 3\ntogether 3 4 0\nmove 4 0 3\nmove 5 0 0\nadd 6 100000 0\n", "0 0 0 0 0 0\n1 bad\n2 bad\n3 bad\n4 bad\n5 bad\n6 bad\nedges 0\n"},
		{"one with itself", "web 4 2\ntogether 3 3 3\nmove 100000 1 2\n", "0 0\n3 yes\n100000 no\nedges 0\n"},
		{"calls stand as they came", "web 4 2\ntogether 9 0 1\ntogether 3 0 0\ntogether 5 1 0\n", "0 0 0\n9 no\n3 yes\n5 no\nedges 0\n"},
		{"an Id that comes twice is one call", "web 4 2\ntogether 9 0 1\nadd 9 0 1\n", "0 0\n9 no\nedges 0\n"},
		{"the head is down", "web 4 2\ndown 0\nadd 1 0 1\ntick 0\ndown 0\n", "0 1 1 1\n1 open\nedges 0\n"},
		{"and comes up", "web 4 2\ndown 0\nadd 1 0 1\nup 0\ntick 0\n", "0 1 0 0\n1 yes\nedges 1\n"},
		{"the power goes", "web 4 2\ncut add 1 0 1\n", "3\n1 open\nedges 0\n"},
		{"and comes again", "web 4 2\ncut add 1 0 1\nup 0\ncut tick 0\nup 0\ntick 0\n", "3 0 3 0 0\n1 yes\nedges 1\n"},
		{"what the power takes of a shard", "web 4 2\nadd 1 0 2\ntick 0\ncut deliver 0\n", "0 0 3\n1 open\nedges 0\n"},
		{"what is kept is not lost", "web 4 2\nadd 1 0 1\ndown 0\nup 0\ntogether 2 1 0\n", "0 0 0 0\n1 yes\n2 yes\nedges 1\n"},
		{"edges of shards and of the head", "web 4 2\nadd 1 0 1\nadd 2 0 2\ntick 0\ndeliver 0\ndeliver 0\nadd 3 1 3\ntick 0\ndeliver 0\n", "0 0 0 0 0 0 0 0\n1 yes\n2 yes\n3 open\nedges 3\n"},
		{"a fault", "web 4 2\nadd 1 0 1\nadd 2 0\n", "fault 3\n"},
		{"no web line", "", "fault 1\n"},
		{"a script that is too long", strings.Repeat("\n", 101), "fault -1\n"},
		{"a fault at a line of two figures", strings.Repeat("\n", 41) + "?", "fault 42\n"},
		{"a fault at a line of three figures", strings.Repeat("\n", 99) + "?", "fault 100\n"},
		{"a web line that is none", "web 4 2 1", "fault 1\n"},
	} {
		wantConsole(t, c.why, c.text, c.want)
	}
}

// What the shard of a vertex that moves has released, and what the next one is to accept, is on its way, and neither has it.
func TestEdgesWhileAVertexMoves(t *testing.T) {
	ahead := "web 4 2\nadd 1 0 2\ntick 0\ndeliver 0\ndeliver 0\nadd 2 0 1\n"
	steps := []struct {
		line  string
		say   string
		edges int
	}{
		{"move 3 0 2\n", "open", 2}, {"tick 0\n", "open", 2}, {"deliver 0\n", "open", 1}, {"deliver 0\n", "open", 1},
		{"tick 0\n", "open", 1}, {"deliver 0\n", "open", 2}, {"deliver 0\n", "yes", 2},
	}
	text, numbers := ahead, "0 0 0 0 0"
	for _, s := range steps {
		text, numbers = text+s.line, numbers+" 0"
		wantConsole(t, "a move", text, fmt.Sprintf("%s\n1 yes\n2 yes\n3 %s\nedges %d\n", numbers, s.say, s.edges))
	}
	wantConsole(t, "behind the move", text+"together 4 1 2\ntake 5 0 1\n", numbers+" 0 0\n1 yes\n2 yes\n3 yes\n4 yes\n5 open\nedges 2\n")
}

func TestConsoleOfAsMuchAsMayBe(t *testing.T) {
	text, want := "web 12 1\n", strings.Repeat("0 ", 69)+"0\n"
	for id := 1; id <= 70; id++ {
		text += fmt.Sprintf("together %d 0 %d\n", id, id%12)
		want += fmt.Sprintf("%d %s\n", id, map[bool]string{true: "yes", false: "no"}[id%12 == 0])
	}
	wantConsole(t, "70 questions", text, want+"edges 0\n")
	wantConsole(t, "71 questions", text+"together 71 0 0\n", "fault 72\n")

	text, count := "web 12 3\n", 0
	for a := range 12 {
		for b := range a {
			if a%3 != b%3 {
				count++
				text += fmt.Sprintf("add %d %d %d\n", count, a, b)
			}
		}
	}
	want = strings.Repeat("0 ", count-1) + "0\n"
	for id := range count {
		want += fmt.Sprintf("%d yes\n", id+1)
	}
	wantConsole(t, "all edges between three shards", text, want+fmt.Sprintf("edges %d\n", count))
	if count != 48 {
		t.Errorf("there are %d edges between the shards", count)
	}
}

// toldInALine leaves of an event what a line of a script tells.
func toldInALine(e impl.Event) impl.Event {
	switch {
	case e.Kind == 1:
		return impl.Event{Kind: 1, Ask: e.Ask, Cut: e.Cut}
	case e.Kind <= 4:
		return impl.Event{Kind: e.Kind, At: e.At, Cut: e.Cut}
	}
	return impl.Event{Kind: e.Kind, Node: e.Node, Cut: e.Cut}
}

func lineOfEvent(e impl.Event) string {
	cut := ""
	if e.Cut {
		cut = "cut "
	}
	switch {
	case e.Kind == 1:
		return cut + lineOf([]string{"add", "take", "together", "move"}[e.Ask.Op-1], []int{e.Ask.Id, e.Ask.A, e.Ask.B})
	case e.Kind <= 4:
		return cut + lineOf([]string{"deliver", "drop", "copy"}[e.Kind-2], []int{e.At})
	}
	return cut + lineOf([]string{"tick", "down", "up"}[e.Kind-5], []int{e.Node})
}

// toldLife is a drawn life that a script can tell, the lines of that script, and the world and numbers that it leads to by the words.
type toldLife struct {
	n, shards int
	events    []impl.Event
	lines     []string
	world     impl.World
	numbers   []int
}

func (n *drawnNumber) toldLife(verts, shards, count int) toldLife {
	l := toldLife{n: verts, shards: shards, lines: []string{fmt.Sprintf("web %d %d", verts, shards)}, world: newWorldByHand(verts, shards)}
	for at := range count {
		e := toldInALine(n.happening(l.world, 1+at+n.below(3)))
		if e.Kind == 1 && (e.Ask.Op < 1 || e.Ask.Op > 4) {
			e.Ask.Op = 1 + n.below(4)
		}
		if !impl.EventOk(shards, e) {
			e = evTick(0)
		}
		w, number := eventByWords(l.world, e, at)
		l.events, l.lines, l.world, l.numbers = append(l.events, e), append(l.lines, lineOfEvent(e)), w, append(l.numbers, number)
	}
	return l
}

func (l toldLife) text() string { return strings.Join(l.lines, "\n") + "\n" }

// spread has the same lines with lines that are passed over ahead, between and behind, as many as a script can have.
func (n *drawnNumber) spread(lines []string) string {
	over, lines := linesPassedOver(), slices.Clone(lines)
	for range n.below(101 - len(lines)) {
		lines = slices.Insert(lines, n.below(len(lines)+1), over[n.below(len(over))])
	}
	text := strings.Join(lines, "\n")
	for len(text) > 4000 {
		longest := slices.MaxFunc(lines, func(a, b string) int { return len(a) - len(b) })
		at := slices.Index(lines, longest)
		lines[at] = longest[:1]
		text = strings.Join(lines, "\n")
	}
	if n.below(2) == 0 && len(text) < 4000 && len(lines) < 100 {
		text += "\n"
	}
	return text
}

// blanked has the same parts with more blanks around them.
func (n *drawnNumber) blanked(lines []string) []string {
	blanked := []string{}
	for _, line := range lines {
		text := strings.Repeat(" ", n.below(3))
		for _, part := range strings.Fields(line) {
			text += part + strings.Repeat(" ", 1+n.below(3))
		}
		if n.below(2) == 0 {
			text = strings.TrimRight(text, " ")
		}
		blanked = append(blanked, text)
	}
	return blanked
}

func TestDrawnScripts(t *testing.T) {
	drawn, told, said := drawnNumber(161), [8][4]int{}, map[string]int{}
	for at := range 240 {
		l := drawn.toldLife(1+at%12, 1+at/12%3, drawn.below(71))
		want := outputByWords(l.world, l.numbers)
		wantScript(t, "drawn", l.text(), l.n, l.shards, l.events...)
		wantConsole(t, "drawn", l.text(), want)
		_, numbers, ok := impl.RunCluster(l.n, l.shards, l.events)
		if !ok || !slices.Equal(numbers, l.numbers) {
			t.Fatalf("RunCluster tells %v, %v of what the script tells; want %v", numbers, ok, l.numbers)
		}
		for range 4 {
			text := drawn.spread(l.lines)
			wantScript(t, "with lines that are passed over", text, l.n, l.shards, l.events...)
			if got := impl.Console(text); got != want {
				t.Fatalf("with lines that are passed over %q tells %q; without them it is %q", text, got, want)
			}
		}
		blanked := strings.Join(drawn.blanked(l.lines), "\n")
		wantScript(t, "with more blanks", blanked, l.n, l.shards, l.events...)
		wantConsole(t, "with more blanks", blanked, want)
		for at, e := range l.events {
			told[e.Kind][l.numbers[at]]++
		}
		for _, line := range strings.Split(want, "\n") {
			if parts := strings.Fields(line); len(parts) == 2 {
				said[parts[1]]++
			}
		}
	}
	for _, word := range []string{"yes", "no", "bad", "open"} {
		if said[word] < 30 {
			t.Errorf("%s came %d times", word, said[word])
		}
	}
	for kind, numbers := range told {
		if kind > 0 && numbers[0] < 30 {
			t.Errorf("of the Kind %d the numbers came so often: %v", kind, numbers)
		}
	}
}

// A fault goes down by as many lines as are put ahead of it, and is the same else.
func TestDrawnFaults(t *testing.T) {
	drawn, faults := drawnNumber(162), slices.Concat(refusedLines(), []string{"tock 0", "tick 4", "web 4 2", "cut", "add 1 0", "add 0 0 1", "add 1 0 1 2", "tick 0 0", "cut cut tick 0", "TICK 0", "take 1 0 -1", "up 01"})
	for at := range 400 {
		l := drawn.toldLife(1+at%12, 1+at/12%3, drawn.below(40))
		place := 1 + drawn.below(len(l.lines))
		lines := slices.Insert(slices.Clone(l.lines), place, faults[drawn.below(len(faults))])
		wantFault(t, "drawn", strings.Join(lines, "\n"), place+1)
		more := drawn.below(50)
		ahead := []string{}
		for range more {
			ahead = append(ahead, []string{"", " ", "#", "# a", "#web 0 0"}[drawn.below(5)])
		}
		split := drawn.below(place + 1)
		wantFault(t, "with lines ahead", strings.Join(slices.Insert(slices.Clone(lines), split, ahead...), "\n"), place+1+more)
		wantFault(t, "with lines behind", strings.Join(slices.Concat(lines, ahead), "\n"), place+1)
	}
}

// Each beginning of a script is one, or has a fault.
func TestScriptsThatAreCutShort(t *testing.T) {
	drawn, right := drawnNumber(163), 0
	for at := range 6 {
		text := drawn.spread(drawn.toldLife(4+at, 1+at%3, 20).lines)
		text = text[:min(len(text), 500)]
		for size := range len(text) + 1 {
			if wantRead(t, "cut short", text[:size]) == 0 {
				right++
			}
		}
	}
	if right < 100 {
		t.Errorf("%d beginnings were scripts", right)
	}
}

// oneByteOff changes, takes away or puts in one byte.
func (n *drawnNumber) oneByteOff(text string) string {
	place, bytes := n.below(len(text)), "\n \n 0123#acdt\r\x00\x7f\xff\xc2"
	put := bytes[n.below(len(bytes)):][:1]
	switch n.below(3) {
	case 0:
		return text[:place] + text[place+1:]
	case 1:
		return text[:place] + put + text[place:]
	}
	return text[:place] + put + text[place+1:]
}

func TestScriptsThatAreOneByteOff(t *testing.T) {
	drawn, right := drawnNumber(164), 0
	for at := range 600 {
		text := drawn.toldLife(1+at%12, 1+at/12%3, 1+drawn.below(12)).text()
		for range 8 {
			if wantRead(t, "one byte off", drawn.oneByteOff(text)) == 0 {
				right++
			}
		}
	}
	if right < 200 || right > 4600 {
		t.Errorf("%d of 4800 are scripts", right)
	}
}

// scrap puts words, numbers and blanks side by side as they come.
func (n *drawnNumber) scrap() string {
	pieces := []string{
		"web 4 2\n", "web 12 3\n", "web", "add", "take", "together", "move", "deliver", "drop", "copy", "tick", "down", "up", "cut", "#", "# a\n", "tick 0\n", "cut add 1 0 1\n", "add 2 0 3\n",
		" ", " ", " ", " ", "  ", "\n", "\n", "\n", "0", "1", "2", " 1", " 0", " 3", "12", "100000", "100001", "1000000000", "1000000001", "-1", "01", "\r", "\x00", "\xff", "\u00e9", "?",
	}
	text := ""
	if n.below(2) == 0 {
		text = "web 4 2\n"
	}
	for range n.below(14) {
		text += pieces[n.below(len(pieces))]
	}
	return text
}

func TestTextsOfAnyBytes(t *testing.T) {
	drawn, faults := drawnNumber(165), map[int]int{}
	for range 20000 {
		faults[wantRead(t, "scraps", drawn.scrap())]++
	}
	for _, fault := range []int{0, 1, 2, 3, 4} {
		if faults[fault] < 100 {
			t.Errorf("the fault %d came %d times", fault, faults[fault])
		}
	}
	for at := range 3000 {
		text := []byte{}
		for range drawn.below(1 + at%200) {
			text = append(text, byte(drawn.below(256)))
		}
		wantRead(t, "any bytes", string(text))
		wantRead(t, "any bytes behind a web line", "web 4 2\n"+string(text))
		wantRead(t, "any bytes as a remark", "web 4 2\n#"+string(text))
	}
	for b := range 256 {
		one := string([]byte{byte(b)})
		wantRead(t, "one byte", one)
		wantRead(t, "one byte, often", strings.Repeat(one, 150))
		wantRead(t, "one byte behind a web line", "web 4 2"+one)
		wantRead(t, "one byte within an event", "web 4 2\ntick"+one+"0")
		wantRead(t, "one byte ahead of an event", "web 4 2\n"+one+"tick 0")
		wantRead(t, "one byte, far too often", strings.Repeat(one, 1<<20))
	}
}

func TestEventsOfScriptsAreKeptNowhere(t *testing.T) {
	drawn := drawnNumber(166)
	for range 20 {
		l := drawn.toldLife(6, 3, 40)
		_, _, one, _ := impl.ReadScript(l.text())
		_, _, two, _ := impl.ReadScript(l.text())
		for at := range one {
			one[at] = impl.Event{Kind: 77, Left: []int{1}}
		}
		if !sameEvents(two, l.events) {
			t.Fatalf("the other answer is %s now", tell(two))
		}
		wantRead(t, "once more", l.text())
	}
}
