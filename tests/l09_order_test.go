package tests

import (
	"math"
	"slices"
	"strings"
	"testing"

	"loop.example/g00130/impl"
)

func orderOf(num, op, v int, edges ...impl.Edge) impl.Order {
	return impl.Order{Num: num, Op: op, Edges: edges, V: v}
}

func answerOf(num int, ok bool, edges []impl.Edge, labels ...int) impl.Answer {
	return impl.Answer{Num: num, Ok: ok, Edges: edges, Labels: labels}
}

func sameOrder(a, b impl.Order) bool {
	return a.Num == b.Num && a.Op == b.Op && slices.Equal(a.Edges, b.Edges) && a.V == b.V
}

func sameAnswer(a, b impl.Answer) bool {
	return a.Num == b.Num && a.Ok == b.Ok && slices.Equal(a.Edges, b.Edges) && slices.Equal(a.Labels, b.Labels)
}

// countTo has 0 .. n - 1, which are labels of n vertices without an edge.
func countTo(n int) []int {
	list := []int{}
	for v := range n {
		list = append(list, v)
	}
	return list
}

func orderOkByWords(n int, o impl.Order) bool {
	if n < 1 || n > impl.MaxVerts || o.Num < 1 || o.Num > 100000 {
		return false
	}
	count, right := len(o.Edges), graphOkByWords(graphOf(n, o.Edges...))
	switch o.Op {
	case 1, 2:
		return count == 1 && right && o.V == 0
	case 3:
		return count == 0 && o.V >= 0 && o.V <= n-1
	case 4:
		return count >= 1 && count <= 66 && right && o.V == 0
	}
	return false
}

// labelsOkByWords makes a graph of an edge from each vertex to its label: labels that are right are the labels of that one.
func labelsOkByWords(n int, labels []int) bool {
	g := graphOf(n)
	for _, e := range allEdges(n) {
		if e.B < len(labels) && labels[e.B] == e.A {
			g.Edges = append(g.Edges, e)
		}
	}
	return slices.Equal(labelsByWords(g), labels)
}

func answerOkByWords(n int, a impl.Answer) bool {
	if n < 1 || n > impl.MaxVerts || a.Num < 1 || a.Num > 100000 {
		return false
	}
	return graphOkByWords(graphOf(n, a.Edges...)) && labelsOkByWords(n, a.Labels)
}

// numByWords has a number below 128 * 128 * 128 in bytes; a Num is never greater.
func numByWords(n int) string {
	if n < 128*128 {
		return numberByWords(n)
	}
	return string([]byte{byte(n%128 + 128), byte(n/128%128 + 128), byte(n / 128 / 128)})
}

func edgesTextByWords(edges []impl.Edge) string {
	text := numByWords(len(edges))
	for _, e := range edges {
		text += string([]byte{byte(e.A), byte(e.B)})
	}
	return text
}

// orderTextByWords asks for no right order, so that it also makes texts that are none of any.
func orderTextByWords(o impl.Order) string {
	return numByWords(o.Num) + string([]byte{byte(o.Op)}) + numByWords(o.V) + edgesTextByWords(o.Edges)
}

// answerTextByWords asks for no right answer either.
func answerTextByWords(a impl.Answer) string {
	text := numByWords(a.Num)
	if a.Ok {
		text += "\x01"
	} else {
		text += "\x00"
	}
	text += edgesTextByWords(a.Edges)
	for _, label := range a.Labels {
		text += string([]byte{byte(label)})
	}
	return text
}

func lowBits(text string) int {
	n := 0
	for i := len(text) - 1; i >= 0; i-- {
		n = n*128 + int(text[i])%128
	}
	return n
}

func pairsIn(text string) []impl.Edge {
	edges := []impl.Edge{}
	for i := 0; i+1 < len(text); i += 2 {
		edges = append(edges, edge(int(text[i]), int(text[i+1])))
	}
	return edges
}

// readOrderByWords follows no number and no count: it takes what would stand there behind a Num of one, two
// or three bytes, and holds what is written of that against the text. (V and the count of a right order have one byte.)
func readOrderByWords(n int, text string) (impl.Order, bool) {
	for size := 1; size <= 3 && size+3 <= len(text); size++ {
		o := orderOf(lowBits(text[:size]), int(text[size]), int(text[size+1]), pairsIn(text[size+3:])...)
		if orderTextByWords(o) == text && orderOkByWords(n, o) {
			return o, true
		}
	}
	return impl.Order{}, false
}

func readAnswerByWords(n int, text string) (impl.Answer, bool) {
	if n < 1 || n > impl.MaxVerts {
		return impl.Answer{}, false
	}
	for size := 1; size <= 3 && size+2+n <= len(text); size++ {
		labels := []int{}
		for _, label := range []byte(text[len(text)-n:]) {
			labels = append(labels, int(label))
		}
		a := answerOf(lowBits(text[:size]), text[size] == 1, pairsIn(text[size+2:len(text)-n]), labels...)
		if answerTextByWords(a) == text && answerOkByWords(n, a) {
			return a, true
		}
	}
	return impl.Answer{}, false
}

// told is what the tests need of orders and of answers alike: the program's functions, and the document's words followed.
type told[T any] struct {
	name        string
	ok          func(n int, what T) bool
	write       func(n int, what T) (string, bool)
	read        func(n int, text string) (T, bool)
	same        func(a, b T) bool
	okByWords   func(n int, what T) bool
	textByWords func(what T) string
	readByWords func(n int, text string) (T, bool)
}

type toldCase[T any] struct {
	n    int
	what T
}

func orders() told[impl.Order] {
	return told[impl.Order]{"order", impl.OrderOk, impl.OrderText, impl.ReadOrder, sameOrder, orderOkByWords, orderTextByWords, readOrderByWords}
}

func answers() told[impl.Answer] {
	return told[impl.Answer]{"answer", impl.AnswerOk, impl.AnswerText, impl.ReadAnswer, sameAnswer, answerOkByWords, answerTextByWords, readAnswerByWords}
}

func (k told[T]) wantOk(t *testing.T, n int, what T, want bool, why string) {
	t.Helper()
	if k.okByWords(n, what) != want {
		t.Fatalf("%s: the test has the wrong %s %v of %d vertices", why, k.name, what, n)
	}
	if k.ok(n, what) != want {
		t.Errorf("%s: the %s %v of %d vertices is right: %v", why, k.name, what, n, !want)
	}
}

func (k told[T]) wantText(t *testing.T, n int, what T, want string) {
	t.Helper()
	if text, ok := k.write(n, what); !ok || text != want {
		t.Errorf("the text of the %s %v of %d vertices is %q, %v; want %q, true", k.name, what, n, text, ok, want)
	}
}

func (k told[T]) wantNoText(t *testing.T, n int, what T, why string) {
	t.Helper()
	if text, ok := k.write(n, what); ok || text != "" {
		t.Errorf("%s: the text of the %s %v of %d vertices is %q, %v; want nothing, false", why, k.name, what, n, text, ok)
	}
}

func (k told[T]) wantRead(t *testing.T, n int, text string, want T) {
	t.Helper()
	if got, ok := k.read(n, text); !ok || !k.same(got, want) {
		t.Errorf("of %q, of %d vertices, the %s %v, %v is read; want %v, true", text, n, k.name, got, ok, want)
	}
}

func (k told[T]) wantNone(t *testing.T, n int, text string, why string) {
	t.Helper()
	zero := *new(T)
	if got, ok := k.read(n, text); ok || !k.same(got, zero) {
		t.Errorf("%s: of %s, of %d vertices, the %s %v, %v is read; want none, false", why, tell(text), n, k.name, got, ok)
	}
}

// wantAsWords holds what is read to the document's words, and what is read to its text; it tells whether there was something.
func (k told[T]) wantAsWords(t *testing.T, n int, text string) bool {
	t.Helper()
	want, right := k.readByWords(n, text)
	if !right {
		k.wantNone(t, n, text, "by the words there is none")
		return false
	}
	k.wantRead(t, n, text, want)
	k.wantOk(t, n, want, true, "read")
	k.wantText(t, n, want, text)
	return true
}

func numsOfNote() []int {
	return []int{1, 2, 127, 128, 129, 16383, 16384, 16385, impl.MaxNum - 1, impl.MaxNum}
}

// commandsOn are the orders of each Op that n vertices may have, with this Num; most is how many sets of edges are accepted at the most.
func commandsOn(n, num, most int) []impl.Order {
	list := []impl.Order{}
	for v := range n {
		list = append(list, orderOf(num, impl.OrderRelease, v))
	}
	for _, e := range allEdges(n) {
		list = append(list, orderOf(num, impl.OrderAdd, 0, e), orderOf(num, impl.OrderTake, 0, e))
	}
	for bits := 1; bits < 1<<len(allEdges(n)) && bits <= most; bits++ {
		list = append(list, orderOf(num, impl.OrderAccept, 0, pickedGraph(n, bits).Edges...))
	}
	return list
}

// command is drawn with as many edges as come.
func (n *drawnNumber) command(verts int) impl.Order {
	num := 1 + n.below(impl.MaxNum)
	if n.below(2) == 0 {
		num = numsOfNote()[n.below(len(numsOfNote()))]
	}
	edges := allEdges(verts)
	op := 1 + n.below(4)
	if op == impl.OrderRelease || len(edges) == 0 {
		return orderOf(num, impl.OrderRelease, n.below(verts))
	}
	one := edges[n.below(len(edges))]
	if g := n.graph(verts); op == impl.OrderAccept && len(g.Edges) > 0 {
		return orderOf(num, op, 0, g.Edges...)
	}
	return orderOf(num, op, 0, one)
}

func (n *drawnNumber) reply(verts int) impl.Answer {
	num := n.command(verts).Num
	return answerOf(num, n.below(2) == 0, n.graph(verts).Edges, labelsByWords(n.graph(verts))...)
}

// rightOrders are each one of up to four vertices with the Nums of note, and some of up to MaxVerts.
func rightOrders() []toldCase[impl.Order] {
	list, drawn := []toldCase[impl.Order]{}, drawnNumber(91)
	for _, num := range numsOfNote() {
		for n := 1; n <= 4; n++ {
			for _, o := range commandsOn(n, num, math.MaxInt) {
				list = append(list, toldCase[impl.Order]{n, o})
			}
		}
		list = append(list, toldCase[impl.Order]{impl.MaxVerts, orderOf(num, impl.OrderAccept, 0, allEdges(impl.MaxVerts)...)})
	}
	for _, o := range commandsOn(impl.MaxVerts, 7, 80) {
		list = append(list, toldCase[impl.Order]{impl.MaxVerts, o})
	}
	for i := range 600 {
		n := 1 + i%impl.MaxVerts
		list = append(list, toldCase[impl.Order]{n, drawn.command(n)})
	}
	return list
}

// labelsOn are all lists of labels that n vertices may have.
func labelsOn(n int) [][]int {
	lists := [][]int{}
	for bits := range 1 << len(allEdges(n)) {
		labels := labelsByWords(pickedGraph(n, bits))
		if !slices.ContainsFunc(lists, func(other []int) bool { return slices.Equal(labels, other) }) {
			lists = append(lists, labels)
		}
	}
	return lists
}

// rightAnswers are each one of up to three vertices with the Nums of note, and some of up to MaxVerts.
func rightAnswers() []toldCase[impl.Answer] {
	list, drawn := []toldCase[impl.Answer]{}, drawnNumber(92)
	for _, num := range numsOfNote() {
		for _, said := range []bool{false, true} {
			for n := 1; n <= 3; n++ {
				for bits := range 1 << len(allEdges(n)) {
					for _, labels := range labelsOn(n) {
						list = append(list, toldCase[impl.Answer]{n, answerOf(num, said, pickedGraph(n, bits).Edges, labels...)})
					}
				}
			}
			for _, edges := range [][]impl.Edge{nil, allEdges(impl.MaxVerts)} {
				list = append(list,
					toldCase[impl.Answer]{impl.MaxVerts, answerOf(num, said, edges, countTo(impl.MaxVerts)...)},
					toldCase[impl.Answer]{impl.MaxVerts, answerOf(num, said, edges, make([]int, impl.MaxVerts)...)})
			}
		}
	}
	for _, labels := range labelsOn(4) {
		list = append(list, toldCase[impl.Answer]{4, answerOf(7, true, nil, labels...)})
	}
	for i := range 600 {
		n := 1 + i%impl.MaxVerts
		list = append(list, toldCase[impl.Answer]{n, drawn.reply(n)})
	}
	return list
}

// everyFew has one of so many of the list.
func everyFew[T any](list []T, step int) []T {
	some := []T{}
	for at := 0; at < len(list); at += step {
		some = append(some, list[at])
	}
	return some
}

// oneTooMany has MaxEdges + 1 right edges; they can't ascend, as there are no more than MaxEdges.
func oneTooMany() []impl.Edge {
	return append(allEdges(impl.MaxVerts), edge(10, 11))
}

func numbersOutOf(from, to int) []int {
	return []int{math.MinInt, math.MinInt + 1, -256, -1, from - 1, to + 1, to + 2, to + 1<<8, to + 1<<16, to + 1<<32, math.MaxInt - 1, math.MaxInt}
}

// edgesThatAreWrong are lists for n vertices, n at least 4, that have one fault each.
func edgesThatAreWrong(n int) [][]impl.Edge {
	lists := [][]impl.Edge{
		{edge(0, 1), edge(0, 1)}, {edge(0, 2), edge(0, 1)}, {edge(1, 2), edge(0, 3)}, {edge(0, 1), edge(2, 3), edge(1, 3)},
		{edge(0, 1), edge(1, 2), edge(1, 2)}, {edge(0, 1), edge(1, 2), edge(0, 1)}, {edge(0, 3), edge(1, 3), edge(0, 2)}, oneTooMany(),
	}
	for _, wrong := range append(wrongEdges(n), edge(256, 257), edge(0, 257), edge(256, 1), edge(-256, 1)) {
		lists = append(lists, []impl.Edge{wrong, edge(2, 3)}, []impl.Edge{edge(0, 1), wrong})
	}
	return lists
}

// wrongOrders break one rule each.
func wrongOrders() map[string][]toldCase[impl.Order] {
	list := map[string][]toldCase[impl.Order]{}
	put := func(why string, n int, all ...impl.Order) {
		for _, o := range all {
			list[why] = append(list[why], toldCase[impl.Order]{n, o})
		}
	}
	for _, n := range numbersOutOf(1, impl.MaxVerts) {
		put("n out of its bounds", n, commandsOn(4, 1, 9)...)
	}
	for _, num := range append(numbersOutOf(1, impl.MaxNum), impl.MaxNumber, impl.MaxNumber+1) {
		put("Num out of its bounds", 4, commandsOn(4, num, 9)...)
	}
	for _, op := range numbersOutOf(1, 4) {
		put("no such Op", 4, orderOf(1, op, 0), orderOf(1, op, 0, edge(0, 1)), orderOf(1, op, 0, edge(0, 1), edge(0, 2)), orderOf(1, op, 1))
	}
	for _, v := range append(numbersOutOf(0, 0), 3, 4) {
		put("V where it must be 0", 4, orderOf(1, impl.OrderAdd, v, edge(0, 1)), orderOf(1, impl.OrderTake, v, edge(0, 1)),
			orderOf(1, impl.OrderAccept, v, edge(0, 1)), orderOf(1, impl.OrderAccept, v, edge(0, 1), edge(1, 2)))
	}
	for _, n := range []int{1, 4, impl.MaxVerts} {
		for _, v := range numbersOutOf(0, n-1) {
			put("V of no vertex", n, orderOf(1, impl.OrderRelease, v))
		}
	}
	for _, op := range []int{impl.OrderAdd, impl.OrderTake} {
		put("not one edge", 4, orderOf(1, op, 0), orderOf(1, op, 0, edge(0, 1), edge(0, 2)), orderOf(1, op, 0, allEdges(4)...), orderOf(1, op, 0, edge(0, 1), edge(0, 1)))
		put("not one edge, of all", impl.MaxVerts, orderOf(1, op, 0, allEdges(impl.MaxVerts)...))
		for _, wrong := range append(wrongEdges(4), edge(256, 257), edge(0, 257)) {
			put("an edge that is not right", 4, orderOf(1, op, 0, wrong))
		}
		put("an edge of one vertex alone", 1, orderOf(1, op, 0, edge(0, 0)), orderOf(1, op, 0, edge(0, 1)))
	}
	for v := range 4 {
		put("released with edges", 4, orderOf(1, impl.OrderRelease, v, edge(0, 1)), orderOf(1, impl.OrderRelease, v, edge(0, 1), edge(1, 2)), orderOf(1, impl.OrderRelease, v, edge(1, 0)))
	}
	for n := 1; n <= impl.MaxVerts; n++ {
		put("nothing to accept", n, orderOf(1, impl.OrderAccept, 0), impl.Order{Num: 1, Op: impl.OrderAccept, Edges: []impl.Edge{}})
	}
	for _, n := range []int{4, 7, impl.MaxVerts} {
		for _, edges := range edgesThatAreWrong(n) {
			put("edges that are not right, or do not ascend", n, orderOf(1, impl.OrderAccept, 0, edges...))
		}
		for _, wrong := range wrongEdges(n) {
			put("an edge to accept that is not right", n, orderOf(1, impl.OrderAccept, 0, wrong))
		}
	}
	put("nothing at all", 4, impl.Order{})
	return list
}

// wrongLabels are lists for n vertices, n at least 4, that have one fault each.
func wrongLabels(n int) [][]int {
	lists := [][]int{nil, countTo(n - 1), countTo(n + 1), append(countTo(n), 0), countTo(2 * n), make([]int, n-1), make([]int, n+1)}
	for v := range n {
		for _, wrong := range []int{-1, v + 1, n, n + 1, 255, 256, v + 256, -256, math.MinInt, math.MaxInt} {
			labels := countTo(n)
			labels[v] = wrong
			lists = append(lists, labels)
		}
		for label := 1; label < v; label++ { // one that is not the label of itself
			labels := countTo(n)
			labels[label], labels[v] = 0, label
			lists = append(lists, labels)
		}
	}
	return lists
}

// wrongAnswers break one rule each.
func wrongAnswers() map[string][]toldCase[impl.Answer] {
	list := map[string][]toldCase[impl.Answer]{}
	put := func(why string, n int, num int, edges []impl.Edge, labels []int) {
		for _, said := range []bool{false, true} {
			list[why] = append(list[why], toldCase[impl.Answer]{n, answerOf(num, said, edges, labels...)})
		}
	}
	for _, n := range numbersOutOf(1, impl.MaxVerts) {
		put("n out of its bounds", n, 1, nil, countTo(min(max(n, 0), 20)))
		put("n out of its bounds, with an edge", n, 1, []impl.Edge{edge(0, 1)}, countTo(4))
	}
	for _, num := range append(numbersOutOf(1, impl.MaxNum), impl.MaxNumber, impl.MaxNumber+1) {
		put("Num out of its bounds", 4, num, nil, countTo(4))
		put("Num out of its bounds, with an edge", 4, num, []impl.Edge{edge(0, 1)}, []int{0, 0, 2, 3})
	}
	for _, n := range []int{4, 7, impl.MaxVerts} {
		for _, edges := range edgesThatAreWrong(n) {
			put("edges that are not right, or do not ascend", n, 1, edges, countTo(n))
		}
		for _, wrong := range wrongEdges(n) {
			put("an edge that is not right", n, 1, []impl.Edge{wrong}, countTo(n))
		}
		for _, labels := range wrongLabels(n) {
			put("labels that are not right", n, 1, nil, labels)
			put("labels that are not right, with an edge", n, 1, []impl.Edge{edge(0, 1)}, labels)
		}
	}
	put("nothing at all", 4, 0, nil, nil)
	put("an edge of one vertex alone", 1, 1, []impl.Edge{edge(0, 1)}, []int{0})
	return list
}

func TestLimitsOfOrders(t *testing.T) {
	if impl.MaxShards != 3 || impl.MaxNum != 100000 {
		t.Errorf("MaxShards is %d, MaxNum %d", impl.MaxShards, impl.MaxNum)
	}
	if ops := []int{impl.OrderAdd, impl.OrderTake, impl.OrderRelease, impl.OrderAccept}; !slices.Equal(ops, []int{1, 2, 3, 4}) {
		t.Errorf("the Ops are %v", ops)
	}
}

func TestOrderOkByHand(t *testing.T) {
	k, all := orders(), allEdges(impl.MaxVerts)
	for _, n := range []int{1, 2, 11, impl.MaxVerts} {
		k.wantOk(t, n, orderOf(1, impl.OrderRelease, 0), true, "the first vertex")
		k.wantOk(t, n, orderOf(impl.MaxNum, impl.OrderRelease, n-1), true, "the last vertex, MaxNum")
		k.wantOk(t, n, orderOf(impl.MaxNum+1, impl.OrderRelease, n-1), false, "MaxNum + 1")
		k.wantOk(t, n, orderOf(0, impl.OrderRelease, 0), false, "Num of 0")
		k.wantOk(t, n, orderOf(1, impl.OrderRelease, n), false, "behind the last vertex")
		k.wantOk(t, n, orderOf(1, impl.OrderRelease, -1), false, "ahead of the first vertex")
	}
	for _, n := range []int{0, impl.MaxVerts + 1} {
		k.wantOk(t, n, orderOf(1, impl.OrderRelease, 0), false, "n")
		k.wantOk(t, n, orderOf(1, impl.OrderAdd, 0, edge(0, 1)), false, "n")
		k.wantOk(t, n, orderOf(1, impl.OrderAccept, 0, edge(0, 1)), false, "n")
	}
	for _, op := range []int{impl.OrderAdd, impl.OrderTake, impl.OrderAccept} {
		k.wantOk(t, 2, orderOf(1, op, 0, edge(0, 1)), true, "one edge")
		k.wantOk(t, impl.MaxVerts, orderOf(1, op, 0, edge(10, 11)), true, "the last edge")
		k.wantOk(t, 11, orderOf(1, op, 0, edge(10, 11)), false, "an edge behind the last one")
		k.wantOk(t, 2, orderOf(1, op, 0), false, "no edge")
		k.wantOk(t, 2, orderOf(1, op, 1, edge(0, 1)), false, "V of 1")
		k.wantOk(t, 3, orderOf(1, op, 0, edge(0, 1), edge(0, 2)), op == impl.OrderAccept, "two edges")
	}
	k.wantOk(t, impl.MaxVerts, orderOf(1, impl.OrderAccept, 0, all...), true, "MaxEdges")
	k.wantOk(t, impl.MaxVerts, orderOf(1, impl.OrderAccept, 0, all[1:]...), true, "one less")
	k.wantOk(t, impl.MaxVerts, orderOf(1, impl.OrderAccept, 0, oneTooMany()...), false, "one more")
	k.wantOk(t, 5, orderOf(1, impl.OrderAccept, 0, edge(0, 4), edge(1, 2)), true, "ascending by A first")
	k.wantOk(t, 5, orderOf(1, impl.OrderAccept, 0, edge(1, 2), edge(0, 4)), false, "by B alone")
	k.wantOk(t, 3, orderOf(1, 0, 0, edge(0, 1)), false, "Op of 0")
	k.wantOk(t, 3, orderOf(1, 5, 0, edge(0, 1)), false, "Op of 5")
}

func TestOrderOkOfEveryKind(t *testing.T) {
	numbers := []int{math.MinInt, -1, 0, 1, 2, 3, 4, 5, 11, 12, 13, math.MaxInt}
	lists := [][]impl.Edge{nil, {}, {edge(0, 1)}, {edge(2, 3)}, {edge(10, 11)}, {edge(1, 0)}, {edge(0, 0)}, {edge(-1, 0)},
		{edge(0, 1), edge(0, 2)}, {edge(0, 2), edge(0, 1)}, {edge(0, 1), edge(0, 1)}, {edge(0, 1), edge(1, 0)}, {edge(0, 1), edge(1, 2), edge(2, 3)}}
	k := orders()
	for _, n := range numbers {
		for _, num := range []int{math.MinInt, -1, 0, 1, 2, 99999, 100000, 100001, math.MaxInt} {
			for op := -1; op <= 6; op++ {
				for _, v := range numbers {
					for _, edges := range lists {
						o := orderOf(num, op, v, edges...)
						k.wantOk(t, n, o, orderOkByWords(n, o), "every kind")
					}
				}
			}
		}
	}
}

func TestOrdersAndAnswersOfMovedEdges(t *testing.T) {
	all, labels := allEdges(impl.MaxVerts), countTo(impl.MaxVerts)
	want := func(edges []impl.Edge, right bool, why string) {
		orders().wantOk(t, impl.MaxVerts, orderOf(1, impl.OrderAccept, 0, edges...), right, why)
		answers().wantOk(t, impl.MaxVerts, answerOf(1, true, edges, labels...), right, why)
	}
	for at := range all { // each wrong place is told, the last one too
		round, without := slices.Clone(all), slices.Delete(slices.Clone(all), at, at+1)
		round[at] = turned(round[at])
		want(round, false, "an edge the other way round")
		want(without, true, "without one")
		want(slices.Insert(without, (at+1)%len(all), all[at]), false, "one moved")
		want(slices.Insert(slices.Clone(all), at, all[at]), false, "one twice")
	}
}

func TestRightOrdersAndAnswers(t *testing.T) {
	for _, c := range rightOrders() {
		orders().wantOk(t, c.n, c.what, true, "right")
	}
	for _, c := range rightAnswers() {
		answers().wantOk(t, c.n, c.what, true, "right")
	}
}

func TestAnswerOkByHand(t *testing.T) {
	k, all := answers(), allEdges(impl.MaxVerts)
	for _, n := range []int{1, 2, 11, impl.MaxVerts} {
		for _, said := range []bool{false, true} {
			k.wantOk(t, n, answerOf(1, said, nil, countTo(n)...), true, "no edges, each its own label")
			k.wantOk(t, n, answerOf(impl.MaxNum, said, []impl.Edge{}, make([]int, n)...), true, "all of one label, MaxNum")
			k.wantOk(t, n, answerOf(0, said, nil, countTo(n)...), false, "Num of 0")
			k.wantOk(t, n, answerOf(impl.MaxNum+1, said, nil, countTo(n)...), false, "MaxNum + 1")
			k.wantOk(t, n, answerOf(1, said, nil, countTo(n-1)...), false, "a label less than n")
			k.wantOk(t, n, answerOf(1, said, nil, countTo(n+1)...), false, "a label more than n")
		}
	}
	k.wantOk(t, 0, answerOf(1, true, nil), false, "n of 0")
	k.wantOk(t, -1, answerOf(1, true, nil), false, "n of -1")
	k.wantOk(t, impl.MaxVerts+1, answerOf(1, true, nil, countTo(impl.MaxVerts+1)...), false, "n of MaxVerts + 1")
	k.wantOk(t, impl.MaxVerts, answerOf(1, true, all, countTo(impl.MaxVerts)...), true, "MaxEdges")
	k.wantOk(t, impl.MaxVerts, answerOf(1, true, oneTooMany(), countTo(impl.MaxVerts)...), false, "one more")
	k.wantOk(t, 3, answerOf(1, true, nil, 0, 1, 1), true, "two of one label")
	k.wantOk(t, 3, answerOf(1, true, nil, 0, 0, 1), false, "a label that is not that of itself")
	k.wantOk(t, 3, answerOf(1, true, nil, 0, 2, 2), false, "a label above its place")
	k.wantOk(t, 3, answerOf(1, true, nil, 1, 1, 2), false, "a label above the first place")
	k.wantOk(t, 3, answerOf(1, true, nil, 0, -1, 2), false, "a label of -1")
	k.wantOk(t, 3, answerOf(1, true, nil, -1, 1, 2), false, "a first label of -1")
	k.wantOk(t, 3, answerOf(1, true, nil, 0, 1, 3), false, "a label of no vertex")
	// The edges that an answer names are gone, or were never there: no label hangs on them.
	k.wantOk(t, 3, answerOf(1, true, []impl.Edge{edge(0, 1)}, 0, 1, 1), true, "edges and labels apart")
}

func TestAnswerOkOfEveryShortListOfLabels(t *testing.T) {
	k, right := answers(), 0
	for n := 0; n <= 4; n++ {
		for size := 0; size <= 5; size++ {
			for at := range int(math.Pow(7, float64(size))) {
				labels := []int{}
				for range size {
					labels, at = append(labels, at%7-1), at/7
				}
				a := answerOf(3, false, nil, labels...)
				k.wantOk(t, n, a, answerOkByWords(n, a), "every short list")
				if answerOkByWords(n, a) {
					right++
				}
			}
		}
	}
	if right != 1+2+5+15 { // in how many ways as many vertices fall apart
		t.Errorf("%d lists of labels are right", right)
	}
}

func TestOrderTextByHand(t *testing.T) {
	k := orders()
	for _, c := range []struct {
		n    int
		o    impl.Order
		want string
	}{
		{2, orderOf(1, impl.OrderAdd, 0, edge(0, 1)), "\x01\x01\x00\x01\x00\x01"},
		{12, orderOf(1, impl.OrderTake, 0, edge(10, 11)), "\x01\x02\x00\x01\x0a\x0b"},
		{1, orderOf(1, impl.OrderRelease, 0), "\x01\x03\x00\x00"},
		{12, orderOf(127, impl.OrderRelease, 11), "\x7f\x03\x0b\x00"},
		{12, orderOf(128, impl.OrderRelease, 11), "\x80\x01\x03\x0b\x00"},
		{5, orderOf(300, impl.OrderAdd, 0, edge(3, 4)), "\xac\x02\x01\x00\x01\x03\x04"},
		{5, orderOf(16383, impl.OrderTake, 0, edge(0, 4)), "\xff\x7f\x02\x00\x01\x00\x04"},
		{5, orderOf(16384, impl.OrderTake, 0, edge(0, 4)), "\x80\x80\x01\x02\x00\x01\x00\x04"},
		{5, orderOf(100000, impl.OrderAccept, 0, edge(1, 2)), "\xa0\x8d\x06\x04\x00\x01\x01\x02"},
		{5, orderOf(2, impl.OrderAccept, 0, edge(0, 4), edge(1, 2), edge(3, 4)), "\x02\x04\x00\x03\x00\x04\x01\x02\x03\x04"},
	} {
		k.wantText(t, c.n, c.o, c.want)
		k.wantRead(t, c.n, c.want, c.o)
	}
	text, ok := impl.OrderText(impl.MaxVerts, orderOf(1, impl.OrderAccept, 0, allEdges(impl.MaxVerts)...))
	if !ok || len(text) != 4+2*66 || text[:8] != "\x01\x04\x00\x42\x00\x01\x00\x02" || !strings.HasSuffix(text, "\x09\x0b\x0a\x0b") {
		t.Errorf("the text of an order with MaxEdges is %q, %v", text, ok)
	}
}

func TestAnswerTextByHand(t *testing.T) {
	k := answers()
	for _, c := range []struct {
		n    int
		a    impl.Answer
		want string
	}{
		{2, answerOf(1, true, nil, 0, 0), "\x01\x01\x00\x00\x00"},
		{2, answerOf(1, false, nil, 0, 0), "\x01\x00\x00\x00\x00"},
		{1, answerOf(1, true, nil, 0), "\x01\x01\x00\x00"},
		{1, answerOf(128, false, nil, 0), "\x80\x01\x00\x00\x00"},
		{1, answerOf(100000, true, nil, 0), "\xa0\x8d\x06\x01\x00\x00"},
		{4, answerOf(127, true, []impl.Edge{edge(0, 3)}, 0, 1, 1, 3), "\x7f\x01\x01\x00\x03\x00\x01\x01\x03"},
		{4, answerOf(2, true, []impl.Edge{edge(0, 3), edge(1, 2), edge(2, 3)}, 0, 0, 2, 2), "\x02\x01\x03\x00\x03\x01\x02\x02\x03\x00\x00\x02\x02"},
		{12, answerOf(3, false, []impl.Edge{edge(10, 11)}, countTo(12)...), "\x03\x00\x01\x0a\x0b\x00\x01\x02\x03\x04\x05\x06\x07\x08\x09\x0a\x0b"},
	} {
		k.wantText(t, c.n, c.a, c.want)
		k.wantRead(t, c.n, c.want, c.a)
	}
	text, ok := impl.AnswerText(impl.MaxVerts, answerOf(1, true, allEdges(impl.MaxVerts), make([]int, impl.MaxVerts)...))
	if !ok || len(text) != 3+2*66+12 || text[:7] != "\x01\x01\x42\x00\x01\x00\x02" || !strings.HasSuffix(text, "\x0a\x0b"+strings.Repeat("\x00", 12)) {
		t.Errorf("the text of an answer with MaxEdges is %q, %v", text, ok)
	}
}

// wantNothingOf holds what is not right to nothing: it has no text, and no text is its.
func wantNothingOf[T any](t *testing.T, k told[T], wrong map[string][]toldCase[T]) {
	t.Helper()
	for why, cases := range wrong {
		for _, c := range cases {
			k.wantOk(t, c.n, c.what, false, why)
			k.wantNoText(t, c.n, c.what, why)
			k.wantAsWords(t, c.n, k.textByWords(c.what)) // a number that is wrong may have the bytes of one that is right
			if got, ok := k.read(c.n, k.textByWords(c.what)); ok && k.same(got, c.what) {
				t.Errorf("%s: the %s %v of %d vertices is read", why, k.name, got, c.n)
			}
		}
	}
}

func TestWrongOrdersAndAnswers(t *testing.T) {
	wantNothingOf(t, orders(), wrongOrders())
	wantNothingOf(t, answers(), wrongAnswers())
}

// wantComeBack is the promise: what is written comes back, and no two have the same text.
func wantComeBack[T any](t *testing.T, k told[T], cases []toldCase[T]) {
	t.Helper()
	written := map[int]map[string]T{}
	for _, c := range cases {
		text, ok := k.write(c.n, c.what)
		if !ok || text != k.textByWords(c.what) {
			t.Fatalf("the text of the %s %v of %d vertices is %q, %v", k.name, c.what, c.n, text, ok)
		}
		k.wantRead(t, c.n, text, c.what)
		if !k.wantAsWords(t, c.n, text) {
			t.Fatalf("by the words %q is no %s of %d vertices", text, k.name, c.n)
		}
		if written[c.n] == nil {
			written[c.n] = map[string]T{}
		}
		if other, found := written[c.n][text]; found && !k.same(other, c.what) {
			t.Fatalf("%v and %v have the text %q", other, c.what, text)
		}
		written[c.n][text] = c.what
	}
}

func TestOrdersAndAnswersComeBack(t *testing.T) {
	wantComeBack(t, orders(), rightOrders())
	wantComeBack(t, answers(), rightAnswers())
}

func TestEveryNumComesBack(t *testing.T) {
	for num := 1; num <= impl.MaxNum; num++ {
		o, a := orderOf(num, impl.OrderRelease, 1), answerOf(num, true, nil, 0, 1)
		orders().wantText(t, 2, o, orderTextByWords(o))
		orders().wantRead(t, 2, orderTextByWords(o), o)
		answers().wantText(t, 2, a, answerTextByWords(a))
		answers().wantRead(t, 2, answerTextByWords(a), a)
	}
	for num := impl.MaxNum + 1; num <= impl.MaxNum+300; num++ {
		orders().wantNone(t, 2, orderTextByWords(orderOf(num, impl.OrderRelease, 1)), "a Num above MaxNum")
		answers().wantNone(t, 2, answerTextByWords(answerOf(num, true, nil, 0, 1)), "a Num above MaxNum")
	}
}

// wantNoPiece holds each beginning of a text, and the text with something behind it, to nothing.
func wantNoPiece[T any](t *testing.T, k told[T], cases []toldCase[T]) {
	t.Helper()
	for _, c := range cases {
		text := k.textByWords(c.what)
		for size := range len(text) {
			k.wantNone(t, c.n, text[:size], "a beginning")
		}
		for value := range 256 {
			k.wantNone(t, c.n, text+string([]byte{byte(value)}), "a byte behind")
		}
		k.wantNone(t, c.n, text+text, "twice")
		k.wantNone(t, c.n, text+strings.Repeat("\x00", 30), "bytes behind")
		k.wantNone(t, c.n, "\x00"+text, "a byte ahead")
	}
}

func TestPiecesOfOrdersAndAnswers(t *testing.T) {
	wantNoPiece(t, orders(), everyFew(rightOrders(), 3))
	wantNoPiece(t, answers(), everyFew(rightAnswers(), 3))
}

// wantTurnsTold turns each byte, and holds what is read then to the words; both what is right and what is not must come of it.
func wantTurnsTold[T any](t *testing.T, k told[T], cases []toldCase[T]) {
	t.Helper()
	right, none := 0, 0
	for _, c := range cases {
		text := []byte(k.textByWords(c.what))
		for at, was := range text {
			for turn := 1; turn < 256; turn++ {
				text[at] = was ^ byte(turn)
				if k.wantAsWords(t, c.n, string(text)) {
					right++
				} else {
					none++
				}
			}
			text[at] = was
		}
	}
	if right < 1000 || none < 1000 {
		t.Errorf("of the turned texts %d are some %s, %d none", right, k.name, none)
	}
}

func TestTurnedBytesOfOrdersAndAnswers(t *testing.T) {
	long := func(text string) bool { return len(text) > 30 }
	some := slices.DeleteFunc(everyFew(rightOrders(), 13), func(c toldCase[impl.Order]) bool { return long(orderTextByWords(c.what)) })
	wantTurnsTold(t, orders(), append(some, toldCase[impl.Order]{impl.MaxVerts, orderOf(200, impl.OrderAccept, 0, allEdges(impl.MaxVerts)...)}))
	others := slices.DeleteFunc(everyFew(rightAnswers(), 13), func(c toldCase[impl.Answer]) bool { return long(answerTextByWords(c.what)) })
	wantTurnsTold(t, answers(), append(others, toldCase[impl.Answer]{impl.MaxVerts, answerOf(200, true, allEdges(impl.MaxVerts), countTo(impl.MaxVerts)...)}))
}

// longerForms are texts of numbers that ReadVar takes for none, or for a number that is too great.
func longerForms(n int) []string {
	text := []byte(numByWords(n))
	text[len(text)-1] += 128
	forms := []string{}
	for _, more := range []string{"\x00", "\x80\x00", "\x80\x80\x00", "\x80\x80\x80\x00", "\x80\x80\x80\x80\x80\x80\x80\x00", strings.Repeat("\x80", 30) + "\x00"} {
		forms = append(forms, string(text)+more)
	}
	return append(forms, string(text)+strings.Repeat("\x80", 8)+"\x02", string(text))
}

func TestReadOfLongerForms(t *testing.T) {
	for _, c := range rightOrders() {
		num, op, v, edges := numByWords(c.what.Num), string([]byte{byte(c.what.Op)}), numByWords(c.what.V), edgesTextByWords(c.what.Edges)
		pairs := edges[1:]
		orders().wantRead(t, c.n, num+op+v+edges, c.what)
		for _, form := range longerForms(c.what.Num) {
			orders().wantNone(t, c.n, form+op+v+edges, "a longer Num")
		}
		for _, form := range longerForms(c.what.V) {
			orders().wantNone(t, c.n, num+op+form+edges, "a longer V")
		}
		for _, form := range longerForms(len(c.what.Edges)) {
			orders().wantNone(t, c.n, num+op+v+form+pairs, "a longer number of Edges")
		}
	}
	for _, c := range rightAnswers() {
		text := answerTextByWords(c.what)
		size := len(numByWords(c.what.Num))
		answers().wantRead(t, c.n, text, c.what)
		for _, form := range longerForms(c.what.Num) {
			answers().wantNone(t, c.n, form+text[size:], "a longer Num")
		}
		for _, form := range longerForms(len(c.what.Edges)) {
			answers().wantNone(t, c.n, text[:size+1]+form+text[size+2:], "a longer number of Edges")
		}
	}
}

// countsOfNote are texts that may stand where the number of Edges does: numbers, far too great ones, and no number at all.
func countsOfNote() []string {
	counts := []string{"", "\x80", "\x80\x94\xeb\xdc\x03", "\x81\x94\xeb\xdc\x03", strings.Repeat("\xff", 8) + "\x7f", strings.Repeat("\x80", 9) + "\x01",
		"\xff\xff\xff\xff\x0f", "\x80\x80\x80\x80\x10", "\x80\x80\x80\x80\x08", strings.Repeat("\xff", 9) + "\x01"}
	for count := range 140 {
		counts = append(counts, numByWords(count))
	}
	return append(counts, numByWords(256), numByWords(257), numByWords(16384), numByWords(65537), numByWords(100000))
}

func TestReadOfAnotherNumberOfEdges(t *testing.T) {
	for _, c := range everyFew(rightOrders(), 2) {
		text := orderTextByWords(c.what)
		at := len(text) - 2*len(c.what.Edges) - 1
		for _, count := range countsOfNote() {
			if count != numByWords(len(c.what.Edges)) {
				orders().wantNone(t, c.n, text[:at]+count+text[at+1:], "another number of Edges")
			}
		}
	}
	// Of answers the bytes of Labels stand behind; so many more or less of them are no Labels of n vertices.
	for _, c := range everyFew(rightAnswers(), 2) {
		text := answerTextByWords(c.what)
		at := len(text) - 2*len(c.what.Edges) - c.n - 1
		for _, count := range countsOfNote() {
			if count != numByWords(len(c.what.Edges)) {
				answers().wantNone(t, c.n, text[:at]+count+text[at+1:], "another number of Edges")
			}
		}
	}
}

// The numbers fit what stands behind them, but are none that the Op may have.
func TestReadOfNumbersThatNoOrderHas(t *testing.T) {
	all := allEdges(impl.MaxVerts)
	for op := range 256 {
		for count := range len(all) + 1 {
			right := op == impl.OrderRelease && count == 0 || op == impl.OrderAccept && count > 0 || (op == impl.OrderAdd || op == impl.OrderTake) && count == 1
			text := orderTextByWords(orderOf(9, op, 0, all[:count]...))
			if orders().wantAsWords(t, impl.MaxVerts, text) != right {
				t.Errorf("an order with the Op %d and %d Edges is right: %v", op, count, !right)
			}
		}
		orders().wantNone(t, impl.MaxVerts, orderTextByWords(orderOf(9, op, 0, oneTooMany()...)), "one edge more than MaxEdges")
	}
	answers().wantNone(t, impl.MaxVerts, answerTextByWords(answerOf(9, true, oneTooMany(), countTo(impl.MaxVerts)...)), "one edge more than MaxEdges")
	long := strings.Repeat("\x00\x01", 1<<20)
	orders().wantNone(t, 4, "\x01\x04\x00"+"\x80\x80\x40"+long, "far too many edges")
	orders().wantNone(t, 4, "\x01\x03\x00\x00"+long, "a release, and far more")
	answers().wantNone(t, 4, "\x01\x01"+"\x80\x80\x40"+long, "far too many edges")
	answers().wantNone(t, 4, "\x01\x01\x00\x00\x01\x02\x03"+long, "an answer, and far more")
}

func TestReadAnswerOfEveryByteForOk(t *testing.T) {
	cases := everyFew(rightAnswers(), 40)
	for value := range 256 {
		for _, c := range cases {
			text := []byte(answerTextByWords(c.what))
			text[len(numByWords(c.what.Num))] = byte(value)
			want := c.what
			want.Ok = value == 1
			if value <= 1 {
				answers().wantRead(t, c.n, string(text), want)
			} else {
				answers().wantNone(t, c.n, string(text), "a byte for Ok that is neither 0 nor 1")
			}
		}
	}
}

func TestReadAnswerOfAnotherNumberOfLabels(t *testing.T) {
	for n := 1; n <= impl.MaxVerts; n++ {
		for count := range 2*impl.MaxVerts + 3 {
			labels := make([]int, count)
			for _, edges := range [][]impl.Edge{nil, allEdges(n), allEdges(n)[:n/2]} {
				a := answerOf(5, true, edges, labels...)
				if count == n {
					answers().wantRead(t, n, answerTextByWords(a), a)
				} else {
					answers().wantNone(t, n, answerTextByWords(a), "another number of Labels")
				}
			}
		}
	}
}

// Of the same text other numbers of vertices make something, or nothing.
func wantOtherVertices[T any](t *testing.T, k told[T], cases []toldCase[T]) {
	t.Helper()
	for _, c := range cases {
		text := k.textByWords(c.what)
		for n := -1; n <= impl.MaxVerts+2; n++ {
			k.wantAsWords(t, n, text)
			k.wantOk(t, n, c.what, k.okByWords(n, c.what), "of other vertices")
			if k.okByWords(n, c.what) {
				k.wantText(t, n, c.what, text)
			} else {
				k.wantNoText(t, n, c.what, "of other vertices")
			}
		}
		for _, n := range numbersOutOf(1, impl.MaxVerts) {
			k.wantNone(t, n, text, "n out of its bounds")
			k.wantNoText(t, n, c.what, "n out of its bounds")
		}
	}
}

func TestOrdersAndAnswersOfOtherVertices(t *testing.T) {
	wantOtherVertices(t, orders(), everyFew(rightOrders(), 3))
	wantOtherVertices(t, answers(), everyFew(rightAnswers(), 3))
}

// wantEveryShortText goes through all texts of at most so many of these bytes, and answers how many of them are something.
func wantEveryShortText[T any](t *testing.T, k told[T], n int, size int, bytes string) int {
	t.Helper()
	texts, right := []string{""}, 0
	for range size + 1 {
		next := []string{}
		for _, text := range texts {
			if k.wantAsWords(t, n, text) {
				right++
			}
			for i := range len(bytes) {
				next = append(next, text+bytes[i:i+1])
			}
		}
		texts = next
	}
	return right
}

func TestReadOfEveryShortText(t *testing.T) {
	for n := 1; n <= 4; n++ {
		want := 0
		for _, o := range commandsOn(n, 1, math.MaxInt) {
			if len(o.Edges) <= 1 {
				want += 4 // Num of 1 to 4
			}
		}
		if right := wantEveryShortText(t, orders(), n, 6, "\x00\x01\x02\x03\x04"); right != want {
			t.Errorf("%d short texts are orders of %d vertices; want %d", right, n, want)
		}
	}
	wantEveryShortText(t, orders(), 2, 6, "\x00\x01\x03\x80\x81\xff")
	wantEveryShortText(t, orders(), 3, 8, "\x00\x01\x02\x04")
	for n := 1; n <= 3; n++ {
		if right := wantEveryShortText(t, answers(), n, 7, "\x00\x01\x02\x80"); right < 8 {
			t.Errorf("%d short texts are answers of %d vertices", right, n)
		}
	}
	wantEveryShortText(t, answers(), 1, 6, "\x00\x01\x02\x7f\x80\xff")
	for value := range 256 {
		one := string([]byte{byte(value)})
		for n := -1; n <= impl.MaxVerts+1; n++ {
			orders().wantNone(t, n, one, "one byte")
			answers().wantNone(t, n, one, "one byte")
		}
	}
}

func TestReadOfNothing(t *testing.T) {
	for _, n := range append(numbersOutOf(1, impl.MaxVerts), countTo(impl.MaxVerts+1)...) {
		orders().wantNone(t, n, "", "the empty text")
		answers().wantNone(t, n, "", "the empty text")
	}
}

// wantDrawnTexts turns, takes out and puts in bytes of texts, several at a time.
func wantDrawnTexts[T any](t *testing.T, k told[T], drawn drawnNumber, cases []toldCase[T]) {
	t.Helper()
	right, none := 0, 0
	for _, c := range slices.Concat(cases, cases, cases) {
		text := []byte(k.textByWords(c.what))
		for range 1 + drawn.below(3) {
			at := drawn.below(len(text))
			switch drawn.below(4) {
			case 0:
				text = slices.Insert(text, at, byte(drawn.below(256)))
			case 1:
				text = append(slices.Delete(text, at, at+1), byte(drawn.below(13)))
			case 2:
				text[at] = byte(drawn.below(256))
			case 3:
				text[at] = byte(drawn.below(13))
			}
		}
		if k.wantAsWords(t, c.n, string(text)) {
			right++
		} else {
			none++
		}
		k.wantAsWords(t, c.n, drawn.text(drawn.below(12)))
	}
	if right < 100 || none < 100 {
		t.Errorf("of the drawn texts %d are some %s, %d none", right, k.name, none)
	}
}

func TestDrawnTexts(t *testing.T) {
	wantDrawnTexts(t, orders(), drawnNumber(93), rightOrders())
	wantDrawnTexts(t, answers(), drawnNumber(94), rightAnswers())
}

func TestOrdersLeaveArgumentsAlone(t *testing.T) {
	fill, cases := edge(77, 78), everyFew(rightOrders(), 5)
	for _, wrong := range wrongOrders() {
		cases = append(cases, wrong...)
	}
	for _, c := range cases {
		o := c.what
		o.Edges = within(c.what.Edges, fill)
		impl.OrderOk(c.n, o)
		text, _ := impl.OrderText(c.n, o)
		again, _ := impl.OrderText(c.n, o)
		if text != "" && (sharesMemory(text, again) || sharesMemory(again, text)) {
			t.Fatalf("two texts of %v share memory", o)
		}
		one, _ := impl.ReadOrder(c.n, text)
		two, _ := impl.ReadOrder(c.n, text)
		wantApart(t, "the order and what ReadOrder answers", o.Edges, one.Edges, two.Edges)
		if want := within(c.what.Edges, fill); !slices.Equal(o.Edges[:cap(o.Edges)], want[:len(c.what.Edges)+4]) {
			t.Fatalf("the edges, or the room behind them, are now %v", o.Edges[:cap(o.Edges)])
		}
	}
}

func TestAnswersLeaveArgumentsAlone(t *testing.T) {
	fill, cases := edge(77, 78), everyFew(rightAnswers(), 5)
	for _, wrong := range wrongAnswers() {
		cases = append(cases, wrong...)
	}
	for _, c := range cases {
		a := c.what
		a.Edges, a.Labels = within(c.what.Edges, fill), within(c.what.Labels, 77)
		impl.AnswerOk(c.n, a)
		text, _ := impl.AnswerText(c.n, a)
		again, _ := impl.AnswerText(c.n, a)
		if text != "" && (sharesMemory(text, again) || sharesMemory(again, text)) {
			t.Fatalf("two texts of %v share memory", a)
		}
		one, _ := impl.ReadAnswer(c.n, text)
		two, _ := impl.ReadAnswer(c.n, text)
		wantApart(t, "the edges of the answer and of what ReadAnswer answers", a.Edges, one.Edges, two.Edges)
		wantApart(t, "the labels of the answer and of what ReadAnswer answers", a.Labels, one.Labels, two.Labels)
		edges, labels := within(c.what.Edges, fill), within(c.what.Labels, 77)
		if !slices.Equal(a.Edges[:cap(a.Edges)], edges[:cap(edges)]) || !slices.Equal(a.Labels[:cap(a.Labels)], labels[:cap(labels)]) {
			t.Fatalf("the lists, or the room behind them, are now %v and %v", a.Edges[:cap(a.Edges)], a.Labels[:cap(a.Labels)])
		}
	}
}

// What is answered is the caller's: writing into it changes no later answer.
func TestOrdersAndAnswersAreKeptNowhere(t *testing.T) {
	const order, answer = "\x05\x04\x00\x02\x00\x01\x01\x02", "\x05\x01\x02\x00\x01\x01\x02\x00\x00\x02"
	for range 3 {
		o, _ := impl.ReadOrder(3, order)
		a, _ := impl.ReadAnswer(3, answer)
		if want := orderOf(5, impl.OrderAccept, 0, edge(0, 1), edge(1, 2)); !sameOrder(o, want) {
			t.Fatalf("the order is now %v", o)
		}
		if want := answerOf(5, true, []impl.Edge{edge(0, 1), edge(1, 2)}, 0, 0, 2); !sameAnswer(a, want) {
			t.Fatalf("the answer is now %v", a)
		}
		_, _, _ = append(o.Edges, edge(9, 9)), append(a.Edges, edge(9, 9)), append(a.Labels, 9)
		o.Edges[0], a.Edges[1], a.Labels[2] = edge(9, 9), edge(9, 9), 9
	}
}
