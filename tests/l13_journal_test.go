package tests

import (
	"math"
	"slices"
	"strings"
	"testing"

	"loop.example/g00130/impl"
)

func takeRec(id, op, a, b int) impl.Rec {
	return impl.Rec{Kind: impl.RecTake, Ask: askOf(id, op, a, b)}
}

func hearRec(shard int, a impl.Answer) impl.Rec {
	return impl.Rec{Kind: impl.RecHear, Shard: shard, Answer: a}
}

func obeyRec(o impl.Order) impl.Rec { return impl.Rec{Kind: impl.RecObey, Order: o} }

func sameRec(a, b impl.Rec) bool {
	return a.Kind == b.Kind && a.Ask == b.Ask && a.Shard == b.Shard && sameAnswer(a.Answer, b.Answer) && sameOrder(a.Order, b.Order)
}

func sameRecs(a, b []impl.Rec) bool { return slices.EqualFunc(a, b, sameRec) }

func recOkByWords(n int, r impl.Rec) bool {
	within := func(list ...int) bool { return slices.Min(list) >= 0 && slices.Max(list) <= 100000 }
	noAsk, noAnswer, noOrder := r.Ask == impl.Ask{}, sameAnswer(r.Answer, impl.Answer{}), sameOrder(r.Order, impl.Order{})
	switch r.Kind {
	case 1:
		return within(r.Ask.Id, r.Ask.Op, r.Ask.A, r.Ask.B) && r.Shard == 0 && noAnswer && noOrder
	case 2:
		return within(r.Shard) && answerOkByWords(n, r.Answer) && noAsk && noOrder
	case 3:
		return orderOkByWords(n, r.Order) && noAsk && r.Shard == 0 && noAnswer
	}
	return false
}

func shortByWords(text string) string { return numByWords(len(text)) + text }

// recTextByWords asks for no right record, so that it also makes texts that are none of any.
func recTextByWords(r impl.Rec) string {
	text := string([]byte{byte(r.Kind)})
	switch r.Kind {
	case 1:
		text += numByWords(r.Ask.Id) + numByWords(r.Ask.Op) + numByWords(r.Ask.A) + numByWords(r.Ask.B)
	case 2:
		text += numByWords(r.Shard) + shortByWords(answerTextByWords(r.Answer))
	case 3:
		text += shortByWords(orderTextByWords(r.Order))
	}
	return text
}

// cutIn has the text in so many pieces, each of one to three bytes, in every way that there is.
func cutIn(text string, pieces int) [][]string {
	if pieces == 0 && text == "" {
		return [][]string{{}}
	}
	ways := [][]string{}
	for size := 1; pieces > 0 && size <= min(3, len(text)); size++ {
		for _, rest := range cutIn(text[size:], pieces-1) {
			ways = append(ways, append([]string{text[:size]}, rest...))
		}
	}
	return ways
}

// perhapsRecs follow no number and no length: they are what might stand there, whatever size these have.
func perhapsRecs(n int, text string) []impl.Rec {
	list := []impl.Rec{}
	if text == "" {
		return list
	}
	kind, rest := text[0], text[1:]
	if kind == 1 {
		for _, way := range cutIn(rest, 4) {
			list = append(list, takeRec(lowBits(way[0]), lowBits(way[1]), lowBits(way[2]), lowBits(way[3])))
		}
	}
	for size := 1; size <= min(2, len(rest)); size++ { // no order or answer has a length of three bytes
		if kind == 3 {
			o, _ := readOrderByWords(n, rest[size:])
			list = append(list, obeyRec(o))
		}
		for shard := 1; kind == 2 && shard <= 3 && shard+size <= len(rest); shard++ {
			a, _ := readAnswerByWords(n, rest[shard+size:])
			list = append(list, hearRec(lowBits(rest[:shard]), a))
		}
	}
	return list
}

func readRecByWords(n int, text string) (impl.Rec, bool) {
	for _, r := range perhapsRecs(n, text) {
		if recOkByWords(n, r) && recTextByWords(r) == text {
			return r, true
		}
	}
	return impl.Rec{}, false
}

func hasText(n int, r impl.Rec) bool {
	_, ok := impl.RecText(n, r)
	return ok
}

func records() told[impl.Rec] {
	return told[impl.Rec]{"record", hasText, impl.RecText, impl.ReadRec, sameRec, recOkByWords, recTextByWords, readRecByWords}
}

func recNumbersOfNote() []int {
	return []int{0, 1, 2, 127, 128, 16383, 16384, impl.MaxNum - 1, impl.MaxNum}
}

// takeRecs have each number of note in each place.
func takeRecs() []toldCase[impl.Rec] {
	list := []toldCase[impl.Rec]{}
	for at, one := range recNumbersOfNote() {
		n := 1 + at
		for _, other := range recNumbersOfNote() {
			list = append(list, toldCase[impl.Rec]{n, takeRec(one, other, 0, 0)}, toldCase[impl.Rec]{n, takeRec(0, 0, one, other)},
				toldCase[impl.Rec]{n, takeRec(other, 3, one, 5)}, toldCase[impl.Rec]{n, takeRec(7, one, 300, other)})
		}
	}
	return list
}

func hearRecs() []toldCase[impl.Rec] {
	list, shards := []toldCase[impl.Rec]{}, append(recNumbersOfNote(), 3, 4)
	for at, c := range everyFew(rightAnswers(), 3) {
		list = append(list, toldCase[impl.Rec]{c.n, hearRec(shards[at%len(shards)], c.what)})
	}
	return list
}

func obeyRecs() []toldCase[impl.Rec] {
	list := []toldCase[impl.Rec]{}
	for _, c := range everyFew(rightOrders(), 3) {
		list = append(list, toldCase[impl.Rec]{c.n, obeyRec(c.what)})
	}
	return list
}

func rightRecs() []toldCase[impl.Rec] { return slices.Concat(takeRecs(), hearRecs(), obeyRecs()) }

type putRec func(why string, n int, r impl.Rec)

// wrongRecs break one rule each.
func wrongRecs() map[string][]toldCase[impl.Rec] {
	list := map[string][]toldCase[impl.Rec]{}
	put := func(why string, n int, r impl.Rec) { list[why] = append(list[why], toldCase[impl.Rec]{n, r}) }
	putWrongKinds(put)
	putWrongNumbers(put)
	for why, cases := range wrongAnswers() {
		for _, c := range cases {
			put("the Answer: "+why, c.n, hearRec(2, c.what))
		}
	}
	for why, cases := range wrongOrders() {
		for _, c := range cases {
			put("the Order: "+why, c.n, obeyRec(c.what))
		}
	}
	for _, what := range whatIsNotZero() {
		for _, r := range []impl.Rec{takeRec(1, 1, 1, 0), takeRec(0, 0, 0, 0), hearRec(2, answerOf(3, true, nil, 0, 1, 2, 3)), obeyRec(orderOf(3, impl.OrderRelease, 2))} {
			if r.Kind != what.kind {
				what.change(&r)
				put(what.name+" beside what its Kind tells", 4, r)
			}
		}
	}
	put("a Shard beside an order", 4, impl.Rec{Kind: impl.RecObey, Shard: 1, Order: orderOf(3, impl.OrderRelease, 2)})
	put("a Shard beside a question", 4, impl.Rec{Kind: impl.RecTake, Shard: 1, Ask: askOf(1, 1, 1, 0)})
	put("nothing at all", 4, impl.Rec{})
	put("nothing heard", 4, impl.Rec{Kind: impl.RecHear})
	put("nothing obeyed", 4, impl.Rec{Kind: impl.RecObey})
	return list
}

// putWrongKinds has Kinds of which some fit a byte, and some have the lowest byte of one that is right.
func putWrongKinds(put putRec) {
	for _, kind := range append(numbersOutOf(1, 3), 0, 4, 5, 255, 256, 257, 258, 259, -253, -254, -255, 1<<32+1) {
		for _, r := range []impl.Rec{{}, takeRec(1, 1, 1, 0), hearRec(1, answerOf(3, true, nil, 0, 1, 2, 3)), obeyRec(orderOf(3, impl.OrderRelease, 2))} {
			r.Kind = kind
			put("no such Kind", 4, r)
		}
	}
}

func putWrongNumbers(put putRec) {
	for _, number := range append(numbersOutOf(0, impl.MaxNum), impl.MaxNumber, impl.MaxNumber+1) {
		put("Id out of its bounds", 4, takeRec(number, 1, 1, 0))
		put("Op out of its bounds", 4, takeRec(1, number, 1, 0))
		put("A out of its bounds", 4, takeRec(1, 1, number, 0))
		put("B out of its bounds", 4, takeRec(1, 1, 1, number))
		put("Shard out of its bounds", 4, hearRec(number, answerOf(3, true, nil, 0, 1, 2, 3)))
	}
}

// notZero is what one Kind alone may tell.
type notZero struct {
	name   string
	kind   int
	change func(r *impl.Rec)
}

func whatIsNotZero() []notZero {
	list := []notZero{}
	put := func(name string, kind int, change func(r *impl.Rec)) {
		list = append(list, notZero{name, kind, change})
	}
	put("an Ask", 1, func(r *impl.Rec) { r.Ask = askOf(1, 1, 1, 0) })
	put("an Answer", 2, func(r *impl.Rec) { r.Answer = answerOf(3, true, nil, 0, 1, 2, 3) })
	put("an Ok", 2, func(r *impl.Rec) { r.Answer.Ok = true })
	put("edges of an Answer", 2, func(r *impl.Rec) { r.Answer.Edges = []impl.Edge{{}} })
	put("Labels", 2, func(r *impl.Rec) { r.Answer.Labels = []int{0} })
	put("an Order", 3, func(r *impl.Rec) { r.Order = orderOf(3, impl.OrderRelease, 2) })
	put("edges of an Order", 3, func(r *impl.Rec) { r.Order.Edges = []impl.Edge{{}} })
	for _, number := range []int{1, -1, math.MinInt, math.MaxInt} {
		put("an Id", 1, func(r *impl.Rec) { r.Ask.Id = number })
		put("an Op of an Ask", 1, func(r *impl.Rec) { r.Ask.Op = number })
		put("an A", 1, func(r *impl.Rec) { r.Ask.A = number })
		put("a B", 1, func(r *impl.Rec) { r.Ask.B = number })
		put("a Shard", 2, func(r *impl.Rec) { r.Shard = number })
		put("a Num of an Answer", 2, func(r *impl.Rec) { r.Answer.Num = number })
		put("a Num of an Order", 3, func(r *impl.Rec) { r.Order.Num = number })
		put("an Op of an Order", 3, func(r *impl.Rec) { r.Order.Op = number })
		put("a V", 3, func(r *impl.Rec) { r.Order.V = number })
	}
	return list
}

func TestNamesOfJournals(t *testing.T) {
	if kinds := []int{impl.RecTake, impl.RecHear, impl.RecObey}; !slices.Equal(kinds, []int{1, 2, 3}) || impl.NameLog != "log" {
		t.Errorf("the Kinds are %v, the log is %q", kinds, impl.NameLog)
	}
}

func TestRecTextByHand(t *testing.T) {
	k := records()
	for _, c := range []struct {
		n    int
		r    impl.Rec
		want string
	}{
		{4, takeRec(1, impl.AskAdd, 1, 0), "\x01\x01\x01\x01\x00"},
		{4, takeRec(0, 0, 0, 0), "\x01\x00\x00\x00\x00"},
		{4, takeRec(1, 2, 3, 4), "\x01\x01\x02\x03\x04"},
		{4, takeRec(100000, 127, 128, 16384), "\x01\xa0\x8d\x06\x7f\x80\x01\x80\x80\x01"},
		{4, takeRec(100000, 100000, 100000, 100000), "\x01\xa0\x8d\x06\xa0\x8d\x06\xa0\x8d\x06\xa0\x8d\x06"},
		{4, hearRec(2, answerOf(300, true, nil, 0, 0, 2, 3)), "\x02\x02\x08\xac\x02\x01\x00\x00\x00\x02\x03"},
		{4, hearRec(0, answerOf(1, false, []impl.Edge{edge(0, 3)}, 0, 1, 2, 3)), "\x02\x00\x09\x01\x00\x01\x00\x03\x00\x01\x02\x03"},
		{1, hearRec(100000, answerOf(1, true, nil, 0)), "\x02\xa0\x8d\x06\x04\x01\x01\x00\x00"},
		{4, obeyRec(orderOf(300, impl.OrderAdd, 0, edge(0, 1))), "\x03\x07\xac\x02\x01\x00\x01\x00\x01"},
		{4, obeyRec(orderOf(1, impl.OrderTake, 0, edge(2, 3))), "\x03\x06\x01\x02\x00\x01\x02\x03"},
		{1, obeyRec(orderOf(1, impl.OrderRelease, 0)), "\x03\x04\x01\x03\x00\x00"},
		{12, obeyRec(orderOf(100000, impl.OrderRelease, 11)), "\x03\x06\xa0\x8d\x06\x03\x0b\x00"},
		{4, obeyRec(orderOf(5, impl.OrderAccept, 0, edge(0, 1), edge(1, 2))), "\x03\x08\x05\x04\x00\x02\x00\x01\x01\x02"},
	} {
		k.wantText(t, c.n, c.r, c.want)
		k.wantRead(t, c.n, c.want, c.r)
	}
}

// The longest records that there are have lengths of two bytes.
func TestRecTextOfAsManyEdgesAsMayBe(t *testing.T) {
	n, all := impl.MaxVerts, allEdges(impl.MaxVerts)
	a, o := answerOf(impl.MaxNum, true, all, make([]int, n)...), orderOf(1, impl.OrderAccept, 0, all...)
	answer, _ := impl.AnswerText(n, a)
	order, _ := impl.OrderText(n, o)
	if len(answer) != 149 || len(order) != 136 {
		t.Fatalf("the answer has %d bytes, the order %d", len(answer), len(order))
	}
	records().wantText(t, n, hearRec(3, a), "\x02\x03\x95\x01"+answer)
	records().wantRead(t, n, "\x02\x03\x95\x01"+answer, hearRec(3, a))
	records().wantText(t, n, obeyRec(o), "\x03\x88\x01"+order)
	records().wantRead(t, n, "\x03\x88\x01"+order, obeyRec(o))
}

func TestWrongRecords(t *testing.T) {
	list := wrongRecs()
	wantNothingOf(t, records(), list)
	if len(list) < 30 {
		t.Errorf("only %d rules are broken", len(list))
	}
}

// A list without anything is zero, as is one that is not there.
func TestRecTextOfListsWithoutAny(t *testing.T) {
	none, nobody := impl.Answer{Edges: []impl.Edge{}, Labels: []int{}}, impl.Order{Edges: []impl.Edge{}}
	records().wantText(t, 4, impl.Rec{Kind: 1, Ask: askOf(1, 2, 3, 4), Answer: none, Order: nobody}, "\x01\x01\x02\x03\x04")
	records().wantText(t, 1, impl.Rec{Kind: 2, Answer: answerOf(1, true, []impl.Edge{}, 0), Order: nobody}, "\x02\x00\x04\x01\x01\x00\x00")
	records().wantText(t, 1, impl.Rec{Kind: 3, Answer: none, Order: impl.Order{Num: 1, Op: 3, Edges: []impl.Edge{}}}, "\x03\x04\x01\x03\x00\x00")
}

// A question has no vertices that the graph must have, so that no n makes another text of it.
func TestQuestionsAreWrittenWhateverTheGraph(t *testing.T) {
	for _, n := range append(numbersOutOf(1, impl.MaxVerts), countTo(impl.MaxVerts+1)...) {
		for _, c := range takeRecs() {
			text := recTextByWords(c.what)
			records().wantText(t, n, c.what, text)
			records().wantRead(t, n, text, c.what)
		}
	}
}

func TestAnswersAndOrdersOfOtherVertices(t *testing.T) {
	wantOtherVertices(t, records(), everyFew(hearRecs(), 3))
	wantOtherVertices(t, records(), everyFew(obeyRecs(), 3))
}

func TestRecordsComeBack(t *testing.T) {
	wantComeBack(t, records(), rightRecs())
	for number := range impl.MaxNum + 1 {
		one, other := takeRec(number, 1, impl.MaxNum-number, 2), takeRec(3, number, 4, impl.MaxNum-number)
		a := hearRec(number, answerOf(1, true, nil, 0))
		for _, r := range []impl.Rec{one, other, a} {
			records().wantText(t, 1, r, recTextByWords(r))
			records().wantRead(t, 1, recTextByWords(r), r)
		}
	}
}

func TestPiecesOfRecords(t *testing.T) {
	wantNoPiece(t, records(), everyFew(rightRecs(), 3))
}

func TestTurnedBytesOfRecords(t *testing.T) {
	long := func(c toldCase[impl.Rec]) bool { return len(recTextByWords(c.what)) > 30 }
	wantTurnsTold(t, records(), slices.DeleteFunc(everyFew(rightRecs(), 23), long))
	n, all := impl.MaxVerts, allEdges(impl.MaxVerts)
	for _, r := range []impl.Rec{hearRec(2, answerOf(200, true, all, countTo(n)...)), obeyRec(orderOf(200, impl.OrderAccept, 0, all...))} {
		text := recTextByWords(r) // its length has two bytes
		for at := range 7 {
			for turn := 1; turn < 256; turn++ {
				records().wantAsWords(t, n, text[:at]+string([]byte{text[at] ^ byte(turn)})+text[at+1:])
			}
		}
	}
}

func TestDrawnTextsOfRecords(t *testing.T) {
	wantDrawnTexts(t, records(), drawnNumber(131), rightRecs())
}

func TestReadRecOfEveryShortText(t *testing.T) {
	for n := 0; n <= 3; n++ {
		right := wantEveryShortText(t, records(), n, 6, "\x00\x01\x02\x03\x04\x80")
		if right < 700 { // with each byte but the last one for each number
			t.Errorf("%d short texts are records of %d vertices", right, n)
		}
	}
	wantEveryShortText(t, records(), 1, 7, "\x00\x01\x02\x04")
	wantEveryShortText(t, records(), 1, 7, "\x00\x01\x03\x04")
	for value := range 256 {
		for n := -1; n <= impl.MaxVerts+1; n++ {
			records().wantNone(t, n, string([]byte{byte(value)}), "one byte")
		}
	}
}

func TestReadRecOfNothing(t *testing.T) {
	for _, n := range append(numbersOutOf(1, impl.MaxVerts), countTo(impl.MaxVerts+1)...) {
		records().wantNone(t, n, "", "the empty text")
	}
}

func TestReadRecOfEveryKind(t *testing.T) {
	bodies := map[int]string{1: "\x01\x01\x01\x00", 2: "\x02\x07\x01\x01\x00\x00\x01\x02\x03", 3: "\x04\x01\x03\x00\x00"}
	for right, body := range bodies {
		for kind := range 256 {
			text := string([]byte{byte(kind)}) + body
			if records().wantAsWords(t, 4, text) != (kind == right) {
				t.Errorf("the text %q is a record: %v", text, kind != right)
			}
		}
	}
	for kind := range 256 { // a question has as many bytes as a release whose length is told
		one := string([]byte{byte(kind)})
		for _, body := range []string{"\x00\x00\x00\x00", "\x04\x01\x03\x00\x00", "\x00\x04\x01\x01\x00\x00"} {
			records().wantAsWords(t, 1, one+body)
		}
		if kind == 0 || kind > 3 {
			records().wantNone(t, 4, one, "no such Kind")
		}
	}
}

func TestReadRecOfLongerForms(t *testing.T) {
	none := func(n int, text, why string) {
		t.Helper()
		records().wantNone(t, n, text, why)
	}
	for _, c := range takeRecs() {
		a := c.what.Ask
		texts := []string{numByWords(a.Id), numByWords(a.Op), numByWords(a.A), numByWords(a.B)}
		for at, number := range []int{a.Id, a.Op, a.A, a.B} {
			for _, form := range longerForms(number) {
				other := slices.Clone(texts)
				other[at] = form
				none(c.n, "\x01"+strings.Join(other, ""), "a longer number")
			}
		}
	}
	for _, c := range hearRecs() {
		shard, answer := numByWords(c.what.Shard), answerTextByWords(c.what.Answer)
		for _, form := range longerForms(c.what.Shard) {
			none(c.n, "\x02"+form+shortByWords(answer), "a longer Shard")
		}
		for _, form := range longerForms(len(answer)) {
			none(c.n, "\x02"+shard+form+answer, "a longer length")
		}
		for _, form := range longerForms(c.what.Answer.Num) {
			none(c.n, "\x02"+shard+shortByWords(form+answer[len(numByWords(c.what.Answer.Num)):]), "a longer Num")
		}
	}
	for _, c := range obeyRecs() {
		order := orderTextByWords(c.what.Order)
		for _, form := range longerForms(len(order)) {
			none(c.n, "\x03"+form+order, "a longer length")
		}
		for _, form := range longerForms(c.what.Order.Num) {
			none(c.n, "\x03"+shortByWords(form+order[len(numByWords(c.what.Order.Num)):]), "a longer Num")
		}
	}
}

// The length that is told is not that of what stands there; what stands there is right.
func TestReadRecOfOtherLengths(t *testing.T) {
	lengths := append(countsOfNote(), numByWords(147), numByWords(148), numByWords(149), numByWords(150), numByWords(impl.MaxText), numByWords(impl.MaxText+1))
	for _, c := range append(everyFew(hearRecs(), 3), everyFew(obeyRecs(), 3)...) {
		ahead, body := "\x03", orderTextByWords(c.what.Order)
		if c.what.Kind == impl.RecHear {
			ahead, body = "\x02"+numByWords(c.what.Shard), answerTextByWords(c.what.Answer)
		}
		for _, length := range lengths {
			if length == numByWords(len(body)) {
				continue
			}
			records().wantNone(t, c.n, ahead+length+body, "another length")
			records().wantNone(t, c.n, ahead+length+body+"\x00", "another length, and a byte more")
		}
		records().wantNone(t, c.n, ahead+numByWords(len(body)+1)+body+"\x00", "a byte behind what is right, and told")
		records().wantNone(t, c.n, ahead+shortByWords(body[:len(body)-1]), "a byte less, and told")
		records().wantNone(t, c.n, ahead+shortByWords(shortByWords(body)), "a length more")
	}
}

func TestReadRecOfNumbersThatAreTooGreat(t *testing.T) {
	great := []string{"\x80\x94\xeb\xdc\x03", "\x81\x94\xeb\xdc\x03", strings.Repeat("\xff", 8) + "\x7f", strings.Repeat("\xff", 9) + "\x01"}
	for number := impl.MaxNum + 1; number <= impl.MaxNum+300; number++ {
		great = append(great, numByWords(number))
	}
	great = append(great, numByWords(1<<17), numByWords(1<<18), numByWords(1<<20), numByWords(1<<21-1))
	for _, number := range great {
		for at := range 4 {
			texts := []string{"\x01", "\x01", "\x01", "\x00"}
			texts[at] = number
			records().wantNone(t, 4, "\x01"+strings.Join(texts, ""), "a number above MaxNum")
		}
		records().wantNone(t, 1, "\x02"+number+"\x04\x01\x01\x00\x00", "a Shard above MaxNum")
		records().wantNone(t, 1, "\x02\x01"+shortByWords(number+"\x01\x00\x00"), "a Num of an answer above MaxNum")
		records().wantNone(t, 1, "\x03"+shortByWords(number+"\x03\x00\x00"), "a Num of an order above MaxNum")
	}
}

// The length fits, but what stands there is no answer or no order of so many vertices.
func TestReadRecOfWhatIsNoAnswerOrOrder(t *testing.T) {
	for why, cases := range wrongAnswers() {
		for _, c := range everyFew(cases, 3) {
			text := answerTextByWords(c.what)
			if _, right := readAnswerByWords(c.n, text); !right { // a number that is wrong may have the bytes of one that is right
				records().wantNone(t, c.n, "\x02\x01"+shortByWords(text), why)
			}
		}
	}
	for why, cases := range wrongOrders() {
		for _, c := range everyFew(cases, 3) {
			text := orderTextByWords(c.what)
			if _, right := readOrderByWords(c.n, text); !right {
				records().wantNone(t, c.n, "\x03"+shortByWords(text), why)
			}
		}
	}
	for _, c := range everyFew(hearRecs(), 3) {
		records().wantNone(t, c.n, "\x03"+recTextByWords(c.what)[1:], "an answer where an order stands")
	}
	for _, c := range everyFew(obeyRecs(), 3) {
		if text := "\x02\x01" + recTextByWords(c.what)[1:]; records().wantAsWords(t, c.n, text) {
			t.Logf("the order %v has the bytes of an answer", c.what.Order)
		}
	}
	records().wantNone(t, 4, "\x02\x01\x00", "no answer")
	records().wantNone(t, 4, "\x03\x00", "no order")
}

func TestReadRecOfFarTooMuch(t *testing.T) {
	for _, size := range []int{impl.MaxRecord, impl.MaxText, impl.MaxText + 1, 1 << 20} {
		long := strings.Repeat("\x01", size)
		for _, ahead := range []string{"", "\x01", "\x02", "\x03", "\x02\x01", "\x02\x01" + numByWords(size), "\x03" + numByWords(size), "\x01\x01\x01\x01\x00", "\x00", "\xff"} {
			records().wantNone(t, 4, ahead+long, "far too much")
		}
	}
}

func headFromByWords(n, shards int, recs []impl.Rec) (impl.Head, bool) {
	if n < 1 || n > 12 || shards < 1 || shards > 3 {
		return impl.Head{}, false
	}
	h, told := newHeadByHand(n, shards), 1
	for _, r := range recs {
		switch r.Kind {
		case 1:
			h, told = askedByWords(h, r.Ask)
		case 2:
			h, told = heardByWords(h, r.Shard, r.Answer)
		default:
			told = 0
		}
		if told == 0 {
			return impl.Head{}, false
		}
	}
	return h, true
}

func shardFromByWords(id, n int, recs []impl.Rec) (impl.Shard, bool) {
	if n < 1 || n > 12 || id < 1 || id > 3 {
		return impl.Shard{}, false
	}
	s, code := shardOf(id, webOf(n), impl.Answer{}), 0
	for _, r := range recs {
		if s, _, code = obeyedByWords(s, r.Order); code != 0 || r.Kind != 3 {
			return impl.Shard{}, false
		}
	}
	return s, true
}

func wantHeadFrom(t *testing.T, why string, n, shards int, recs []impl.Rec, want impl.Head) {
	t.Helper()
	if got, ok := impl.HeadFrom(n, shards, recs); !ok || !sameHead(got, want) {
		t.Fatalf("%s: HeadFrom(%d, %d) of %d records = %v, %v; want %v, true", why, n, shards, len(recs), got, ok, want)
	}
}

func wantNoHeadFrom(t *testing.T, why string, n, shards int, recs []impl.Rec) {
	t.Helper()
	if got, ok := impl.HeadFrom(n, shards, recs); ok || !sameHead(got, impl.Head{}) {
		t.Fatalf("%s: HeadFrom(%d, %d) of %d records = %v, %v; want nothing, false", why, n, shards, len(recs), got, ok)
	}
}

func wantShardFrom(t *testing.T, why string, id, n int, recs []impl.Rec, want impl.Shard) {
	t.Helper()
	if got, ok := impl.ShardFrom(id, n, recs); !ok || !sameShard(got, want) {
		t.Fatalf("%s: ShardFrom(%d, %d) of %d records = %v, %v; want %v, true", why, id, n, len(recs), got, ok, want)
	}
}

func wantNoShardFrom(t *testing.T, why string, id, n int, recs []impl.Rec) {
	t.Helper()
	if got, ok := impl.ShardFrom(id, n, recs); ok || !sameShard(got, impl.Shard{}) {
		t.Fatalf("%s: ShardFrom(%d, %d) of %d records = %v, %v; want nothing, false", why, id, n, len(recs), got, ok)
	}
}

// diary is a life, and what is written of it: of the head at 0, of the shards behind it.
type diary struct {
	head   impl.Head
	shards []impl.Shard
	pages  [][]impl.Rec
}

func newDiary(n, shards int) *diary {
	l := newLife(n, shards)
	return &diary{l.head, l.shards, make([][]impl.Rec, shards+1)}
}

func (d *diary) write(node int, r impl.Rec) { d.pages[node] = append(d.pages[node], r) }

// ask is told each time that something is written, and what was.
func (d *diary) ask(a impl.Ask, written func(node int)) {
	head, told := impl.Take(d.head, a)
	if told == 0 {
		return
	}
	d.head = head
	d.write(0, impl.Rec{Kind: impl.RecTake, Ask: a})
	written(0)
	for impl.Busy(d.head) {
		task := d.head.Task
		shard, answer, _ := impl.Obey(d.shards[task.Shard-1], task.Order)
		d.shards[task.Shard-1] = shard
		d.write(task.Shard, obeyRec(task.Order))
		written(task.Shard)
		d.head, _ = impl.Hear(d.head, task.Shard, answer)
		d.write(0, hearRec(task.Shard, answer))
		written(0)
	}
}

// wantAsItWas asks that what is written of a node leads to what it is.
func (d *diary) wantAsItWas(t *testing.T, why string, node int, recs []impl.Rec) {
	t.Helper()
	if node == 0 {
		wantHeadFrom(t, why, d.head.N, len(d.shards), recs, d.head)
	} else {
		wantShardFrom(t, why, node, d.head.N, recs, d.shards[node-1])
	}
}

// livelyOf has no number below 0: a question with one is taken, but has no record.
func (n *drawnNumber) livelyOf(id int, d *diary) impl.Ask {
	l := &life{head: d.head, shards: d.shards, graph: slices.Clone(d.head.Cuts)}
	for _, s := range d.shards {
		l.graph = append(l.graph, impl.Owned(s)...)
	}
	a := n.lively(id, l)
	return askOf(a.Id, max(a.Op, 0), max(a.A, 0), max(a.B, 0))
}

// lived is a diary of so many questions.
func (n *drawnNumber) lived(verts, shards, asks int) *diary {
	d := newDiary(verts, shards)
	for id := 1; id <= asks; id++ {
		d.ask(n.livelyOf(id, d), func(int) {})
	}
	return d
}

func TestHeadFromNoRecords(t *testing.T) {
	for _, n := range append(numbersOutOf(1, impl.MaxVerts), countTo(impl.MaxVerts+1)...) {
		for _, shards := range append(numbersOutOf(1, impl.MaxShards), 0, 1, 2, 3) {
			for _, none := range [][]impl.Rec{nil, {}} {
				if n < 1 || n > 12 || shards < 1 || shards > 3 {
					wantNoHeadFrom(t, "no such head", n, shards, none)
					wantNoHeadFrom(t, "no such head, with a record", n, shards, []impl.Rec{takeRec(1, impl.AskTogether, 0, 0)})
				} else {
					wantHeadFrom(t, "no records", n, shards, none, newHeadByHand(n, shards))
				}
			}
		}
	}
}

func TestShardFromNoRecords(t *testing.T) {
	for _, n := range append(numbersOutOf(1, impl.MaxVerts), countTo(impl.MaxVerts+1)...) {
		for _, id := range append(numbersOutOf(1, impl.MaxShards), 0, 1, 2, 3) {
			for _, none := range [][]impl.Rec{nil, {}} {
				if n < 1 || n > 12 || id < 1 || id > 3 {
					wantNoShardFrom(t, "no such shard", id, n, none)
					wantNoShardFrom(t, "no such shard, with a record", id, n, []impl.Rec{obeyRec(orderOf(1, impl.OrderRelease, 0))})
				} else {
					wantShardFrom(t, "no records", id, n, none, impl.Shard{Id: id, Web: webOf(n)})
				}
			}
		}
	}
}

// shortLife has a question that is said at once, one that is a Task, one without sense, and a move that lets accept.
func shortLife() *diary {
	d := newDiary(4, 2)
	for id, a := range []impl.Ask{askOf(0, impl.AskAdd, 1, 0), askOf(0, impl.AskAdd, 0, 2), askOf(0, impl.AskTogether, 1, 2), askOf(0, 9, 0, 0), askOf(0, impl.AskMove, 0, 2)} {
		a.Id = 11 + id
		d.ask(a, func(int) {})
	}
	return d
}

func TestHeadFromByHand(t *testing.T) {
	recs := []impl.Rec{
		takeRec(11, impl.AskAdd, 1, 0),
		takeRec(12, impl.AskAdd, 0, 2), hearRec(1, answerOf(1, true, nil, 0, 1, 0, 3)),
		takeRec(13, impl.AskTogether, 1, 2),
		takeRec(14, 9, 0, 0),
		takeRec(15, impl.AskMove, 0, 2), hearRec(1, answerOf(2, true, []impl.Edge{edge(0, 2)}, 0, 1, 2, 3)), hearRec(2, answerOf(1, true, nil, 0, 0, 2, 3)),
	}
	if !sameRecs(shortLife().pages[0], recs) {
		t.Fatalf("of the short life %v is written", shortLife().pages[0])
	}
	said := []impl.Said{
		saidOf(recs[0].Ask, impl.SayYes), saidOf(recs[1].Ask, impl.SayYes), saidOf(recs[3].Ask, impl.SayYes),
		saidOf(recs[4].Ask, impl.SayBad), saidOf(recs[5].Ask, impl.SayYes),
	}
	want := newHeadByHand(4, 2)
	want.Cuts, want.Said = []impl.Edge{edge(0, 1)}, said[:1]
	wantHeadFrom(t, "said at once", 4, 2, recs[:1], want)
	want.Task = taskOf(recs[1].Ask, 1, orderOf(1, impl.OrderAdd, 0, edge(0, 2)))
	wantHeadFrom(t, "the Task", 4, 2, recs[:2], want)
	want.Task, want.Labels[0], want.Nums[0], want.Said = impl.Task{}, []int{0, 1, 0, 3}, 1, said[:2]
	wantHeadFrom(t, "an answer", 4, 2, recs[:3], want)
	want.Said, want.Task = said[:4], taskOf(recs[5].Ask, 1, orderOf(2, impl.OrderRelease, 0))
	wantHeadFrom(t, "a move", 4, 2, recs[:6], want)
	want.Own, want.Cuts, want.Labels[0], want.Nums[0] = []int{2, 2, 1, 2}, []impl.Edge{edge(0, 2)}, []int{0, 1, 2, 3}, 2
	want.Task = taskOf(recs[5].Ask, 2, orderOf(1, impl.OrderAccept, 0, edge(0, 1)))
	wantHeadFrom(t, "a move that lets accept", 4, 2, recs[:7], want)
	want.Task, want.Labels[1], want.Nums[1], want.Said = impl.Task{}, []int{0, 0, 2, 3}, 1, said
	wantHeadFrom(t, "a move to its end", 4, 2, recs, want)
}

func TestShardFromByHand(t *testing.T) {
	recs := []impl.Rec{
		obeyRec(orderOf(1, impl.OrderAdd, 0, edge(0, 2))), obeyRec(orderOf(2, impl.OrderAccept, 0, edge(0, 1), edge(1, 2))),
		obeyRec(orderOf(3, impl.OrderTake, 0, edge(1, 3))), obeyRec(orderOf(4, impl.OrderRelease, 1)),
	}
	one := webOf(4, inForest(0, 2, 0))
	ring := webOf(4, inForest(0, 1, 0), inForest(0, 2, 0), beside(1, 2, 0))
	wantShardFrom(t, "an order", 2, 4, recs[:1], shardOf(2, one, answerOf(1, true, nil, 0, 1, 0, 3)))
	wantShardFrom(t, "two orders", 2, 4, recs[:2], shardOf(2, ring, answerOf(2, true, nil, 0, 0, 0, 3)))
	wantShardFrom(t, "one that is not Ok", 2, 4, recs[:3], shardOf(2, ring, answerOf(3, false, nil, 0, 0, 0, 3)))
	got, ok := impl.ShardFrom(2, 4, recs)
	want := answerOf(4, true, []impl.Edge{edge(0, 1), edge(1, 2)}, 0, 1, 0, 3)
	if !ok || !sameAnswer(got.Last, want) || !slices.Equal(impl.Owned(got), []impl.Edge{edge(0, 2)}) {
		t.Errorf("behind a release the shard is %v, %v", got, ok)
	}
}

// Behind each record of a life the head, or the shard, that is read of all of them is the one that this life had.
func TestLivesComeBackFromTheirRecords(t *testing.T) {
	drawn, written := drawnNumber(132), [4]int{}
	for at := range 36 {
		d := newDiary(1+at%12, 1+at/12)
		for id := 1; id <= impl.MaxAsks; id++ {
			d.ask(drawn.livelyOf(id, d), func(node int) {
				written[node]++
				d.wantAsItWas(t, "in a life", node, d.pages[node])
			})
		}
		for node, page := range d.pages {
			d.wantAsItWas(t, "at its end", node, page)
		}
	}
	if slices.Min(written[:]) < 100 {
		t.Errorf("so many records were written: %v", written)
	}
}

// recordsOfOtherKinds have a Kind that the head, or a shard, does not write; some of them would be told something.
func recordsOfOtherKinds(node int, next impl.Rec) []impl.Rec {
	list := []impl.Rec{{}}
	for _, kind := range []int{math.MinInt, -1, 0, 4, 257, 258, 259, math.MaxInt} {
		r := next
		r.Kind = kind
		list = append(list, r)
	}
	if node == 0 {
		r := next
		r.Kind = impl.RecObey
		return append(list, r, obeyRec(orderOf(1, impl.OrderRelease, 0)))
	}
	for _, kind := range []int{impl.RecTake, impl.RecHear} {
		r := next
		r.Kind = kind
		list = append(list, r)
	}
	return append(list, takeRec(900, impl.AskTogether, 0, 0), hearRec(1, answerOf(1, true, nil, 0, 1, 2, 3)))
}

func TestRecordsOfOtherKinds(t *testing.T) {
	d := shortLife()
	for node := range 2 {
		page := d.pages[node]
		d.wantAsItWas(t, "as it is", node, page)
		for at := range len(page) + 1 {
			next := page[min(at, len(page)-1)]
			for _, other := range recordsOfOtherKinds(node, next) {
				between := slices.Insert(slices.Clone(page), at, other)
				instead := slices.Concat(page[:at], []impl.Rec{other}, page[min(at+1, len(page)):])
				for _, recs := range [][]impl.Rec{between, instead, between[:at+1]} {
					if node == 0 {
						wantNoHeadFrom(t, "a record of another Kind", 4, 2, recs)
					} else {
						wantNoShardFrom(t, "a record of another Kind", 1, 4, recs)
					}
				}
			}
		}
	}
}

func TestHeadFromWhatIsToldNothing(t *testing.T) {
	page := shortLife().pages[0]
	free, busy := page[:1], page[:2] // it waits for the answer of the shard 1 to the Num 1
	labels := []int{0, 1, 0, 3}
	for why, r := range map[string]impl.Rec{
		"Said already":                    takeRec(11, impl.AskAdd, 1, 0),
		"Said already, another question":  takeRec(11, impl.AskTogether, 1, 2),
		"an Id of 0":                      takeRec(0, impl.AskTogether, 0, 0),
		"an Id above MaxNum":              takeRec(impl.MaxNum+1, impl.AskTogether, 0, 0),
		"an answer that nobody waits for": hearRec(1, answerOf(1, true, nil, labels...)),
		"an answer of no shard":           hearRec(0, answerOf(1, true, nil, labels...)),
		"no answer":                       hearRec(0, impl.Answer{}),
	} {
		wantNoHeadFrom(t, why, 4, 2, append(slices.Clone(free), r))
		wantNoHeadFrom(t, why+", and more behind it", 4, 2, slices.Concat(free, []impl.Rec{r}, page[1:]))
	}
	for why, r := range map[string]impl.Rec{
		"the Task's question":                page[1],
		"another question while it is Busy":  takeRec(12, impl.AskTogether, 0, 0),
		"another Id while it is Busy":        takeRec(20, impl.AskTogether, 0, 0),
		"an answer of another shard":         hearRec(2, answerOf(1, true, nil, labels...)),
		"an answer of the shard 0":           hearRec(0, answerOf(1, true, nil, labels...)),
		"an answer of a shard that is none":  hearRec(3, answerOf(1, true, nil, labels...)),
		"an answer of a later Num":           hearRec(1, answerOf(2, true, nil, labels...)),
		"an answer of no Num":                hearRec(1, answerOf(0, true, nil, labels...)),
		"an answer of too few Labels":        hearRec(1, answerOf(1, true, nil, 0, 1, 0)),
		"an answer of Labels that are wrong": hearRec(1, answerOf(1, true, nil, 0, 1, 0, 4)),
		"an answer of edges that are wrong":  hearRec(1, answerOf(1, true, []impl.Edge{edge(2, 0)}, labels...)),
	} {
		wantNoHeadFrom(t, why, 4, 2, append(slices.Clone(busy), r))
		wantNoHeadFrom(t, why+", and more behind it", 4, 2, slices.Concat(busy, []impl.Rec{r}, page[2:]))
	}
	wantNoHeadFrom(t, "an answer first", 4, 2, page[2:])
	wantNoHeadFrom(t, "of other shards", 4, 1, page)
	wantNoHeadFrom(t, "of other vertices", 5, 2, page)
}

func TestHeadFromAsManyQuestionsAsMayBe(t *testing.T) {
	recs := []impl.Rec{}
	for id := 1; id <= impl.MaxAsks; id++ {
		recs = append(recs, takeRec(id, impl.AskTogether, 0, id%2))
	}
	want, _ := headFromByWords(2, 2, recs)
	if len(want.Said) != impl.MaxAsks {
		t.Fatalf("%d are Said", len(want.Said))
	}
	wantHeadFrom(t, "MaxAsks questions", 2, 2, recs, want)
	wantNoHeadFrom(t, "MaxAsks and one more", 2, 2, append(recs, takeRec(impl.MaxAsks+1, impl.AskTogether, 0, 0)))
	wantNoHeadFrom(t, "far more", 2, 2, slices.Repeat(recs, 1000))
}

func TestShardFromOrdersToldAgain(t *testing.T) {
	drawn := drawnNumber(133)
	for at := range 24 {
		d := drawn.lived(2+at%11, 1+at%3, 30)
		for node, page := range d.pages[1:] {
			often := []impl.Rec{}
			for _, r := range page {
				often = append(often, r)
				for range drawn.below(3) {
					again := drawn.next(r.Order.Num, d.shards[node].Web) // another order of this Num is none that is done
					often = append(often, r, obeyRec(again))
				}
			}
			d.wantAsItWas(t, "told again", node+1, often)
		}
	}
}

func TestShardFromWhatIsNotObeyed(t *testing.T) {
	page := []impl.Rec{obeyRec(orderOf(1, impl.OrderAdd, 0, edge(0, 2))), obeyRec(orderOf(2, impl.OrderAdd, 0, edge(0, 1))), obeyRec(orderOf(3, impl.OrderRelease, 0))}
	for why, wrong := range map[string][]impl.Rec{
		"the first one is not there": page[1:],
		"one between is not there":   {page[0], page[2]},
		"one comes late":             {page[0], page[1], page[0]},
		"one comes late, at the end": {page[0], page[1], page[2], page[1]},
		"one comes ahead of time":    {page[0], page[2], page[1]},
		"no order":                   {page[0], {Kind: impl.RecObey}},
		"a Num of 0":                 {obeyRec(orderOf(0, impl.OrderRelease, 0))},
		"a Num far ahead":            {page[0], obeyRec(orderOf(impl.MaxNum, impl.OrderRelease, 0))},
		"a vertex that is none":      {page[0], obeyRec(orderOf(2, impl.OrderRelease, 4)), page[2]},
		"an edge that is none":       {obeyRec(orderOf(1, impl.OrderAdd, 0, edge(2, 0))), page[1]},
		"edges that do not ascend":   {page[0], obeyRec(orderOf(2, impl.OrderAccept, 0, edge(1, 2), edge(0, 1)))},
		"told again, and not right":  {page[0], obeyRec(orderOf(1, 9, 0))},
	} {
		if _, right := shardFromByWords(1, 4, wrong); right {
			t.Fatalf("%s: the test has wrong records", why)
		}
		wantNoShardFrom(t, why, 1, 4, wrong)
	}
	for why, cases := range wrongOrders() {
		for _, c := range cases {
			if c.what.Num = 2; !orderOkByWords(4, c.what) {
				wantNoShardFrom(t, why, 1, 4, []impl.Rec{page[0], obeyRec(c.what)})
			}
		}
	}
}

// The Kind alone tells what a record is taken for: what it does not tell is not looked at.
func TestWhatAKindDoesNotTellIsPassedOver(t *testing.T) {
	d := shortLife()
	for node := range 2 {
		for _, what := range whatIsNotZero() {
			page := slices.Clone(d.pages[node])
			for at := range page {
				if page[at].Kind != what.kind {
					what.change(&page[at])
				}
			}
			d.wantAsItWas(t, what.name, node, page)
		}
	}
}

// spoiltPage has records that are taken out, doubled, changed places, or come of another life.
func (n *drawnNumber) spoiltPage(page, other []impl.Rec) []impl.Rec {
	page = slices.Clone(page)
	for range 1 + n.below(2) {
		if len(page) == 0 || len(other) == 0 {
			break
		}
		at, to, foreign := n.below(len(page)), n.below(len(page)), other[n.below(len(other))]
		switch n.below(6) {
		case 0:
			page = slices.Delete(page, at, at+1)
		case 1:
			page = slices.Insert(page, at, page[at])
		case 2:
			page[at], page[to] = page[to], page[at]
		case 3:
			page[at] = foreign
		case 4:
			page = slices.Insert(page, at, foreign)
		case 5:
			page[at].Ask.Id, page[at].Ask.A = 1+n.below(50), page[at].Ask.A+n.below(3)-1
		}
	}
	return page
}

func TestDrawnRecordsAsTheWordsHaveThem(t *testing.T) {
	drawn, told := drawnNumber(134), [2][2]int{}
	for at := range 240 {
		n, shards := 1+at%12, 1+at/12%3
		d, other := drawn.lived(n, shards, 12), drawn.lived(n, shards, 12)
		for range 4 {
			page := drawn.spoiltPage(d.pages[0], slices.Concat(other.pages...))
			if want, right := headFromByWords(n, shards, page); right {
				wantHeadFrom(t, "drawn", n, shards, page, want)
				told[0][1]++
			} else {
				wantNoHeadFrom(t, "drawn", n, shards, page)
				told[0][0]++
			}
			id := 1 + drawn.below(shards)
			page = drawn.spoiltPage(d.pages[id], slices.Concat(other.pages...))
			if want, right := shardFromByWords(id, n, page); right {
				wantShardFrom(t, "drawn", id, n, page, want)
				told[1][1]++
			} else {
				wantNoShardFrom(t, "drawn", id, n, page)
				told[1][0]++
			}
		}
	}
	for node, counts := range told {
		if slices.Min(counts[:]) < 100 {
			t.Errorf("of the lists of %d so many were false and true: %v", node, counts)
		}
	}
}

// fileOf has the frames of records, as the document's words have them.
func fileOf(recs ...impl.Rec) string {
	file := ""
	for _, r := range recs {
		file += frameByWords(recTextByWords(r))
	}
	return file
}

func readRecsByWords(n int, file string) ([]impl.Rec, int) {
	recs, end := []impl.Rec{}, 0
	texts, _ := unframeByWords(file)
	for _, text := range texts {
		r, right := readRecByWords(n, text)
		if !right {
			break
		}
		recs, end = append(recs, r), end+len(frameByWords(text))
	}
	return recs, end
}

func wantRecs(t *testing.T, why string, n int, file string, want []impl.Rec, end int) {
	t.Helper()
	if got, at := impl.ReadRecs(n, file); !sameRecs(got, want) || at != end {
		t.Fatalf("%s: ReadRecs(%d, %s) = %d records %s, %d; want %d records, %d", why, n, tell(file), len(got), tell(got), at, len(want), end)
	}
}

func wantRecsByWords(t *testing.T, why string, n int, file string) int {
	t.Helper()
	want, end := readRecsByWords(n, file)
	wantRecs(t, why, n, file, want, end)
	return end
}

// someRecs are of each Kind, of 4 vertices.
func someRecs() []impl.Rec {
	return []impl.Rec{
		takeRec(1, impl.AskAdd, 1, 0), hearRec(2, answerOf(300, true, []impl.Edge{edge(0, 3)}, 0, 1, 2, 0)), obeyRec(orderOf(7, impl.OrderAccept, 0, edge(0, 1), edge(2, 3))),
		takeRec(impl.MaxNum, 128, 16384, 0), obeyRec(orderOf(impl.MaxNum, impl.OrderRelease, 3)),
	}
}

func TestReadRecsByHand(t *testing.T) {
	one := frameByWords("\x01\x01\x01\x01\x00")
	if len(one) != 10 {
		t.Fatalf("the frame has %d bytes", len(one))
	}
	wantRecs(t, "nothing", 4, "", nil, 0)
	wantRecs(t, "one frame", 4, one, []impl.Rec{takeRec(1, 1, 1, 0)}, 10)
	wantRecs(t, "one frame, and a torn one", 4, one+"torn", []impl.Rec{takeRec(1, 1, 1, 0)}, 10)
	wantRecs(t, "a torn one", 4, "torn", nil, 0)
	wantRecs(t, "one frame twice", 4, one+one, []impl.Rec{takeRec(1, 1, 1, 0), takeRec(1, 1, 1, 0)}, 20)
	other := frameByWords("\x03\x04\x01\x03\x00\x00")
	wantRecs(t, "two frames", 4, one+other, []impl.Rec{takeRec(1, 1, 1, 0), obeyRec(orderOf(1, impl.OrderRelease, 0))}, 21)
	wantRecs(t, "two frames, the other way round", 4, other+one, []impl.Rec{obeyRec(orderOf(1, impl.OrderRelease, 0)), takeRec(1, 1, 1, 0)}, 21)
}

func TestReadRecsOfAFileThatGrows(t *testing.T) {
	recs := someRecs()
	for count := range len(recs) + 1 {
		file := fileOf(recs[:count]...)
		wantRecs(t, "whole frames", 4, file, recs[:count], len(file))
	}
}

func TestReadRecsOfACutFile(t *testing.T) {
	recs, places := someRecs(), []int{}
	for count := range len(recs) {
		places = append(places, len(fileOf(recs[:count+1]...)))
	}
	file := fileOf(recs...)
	for cut := range len(file) + 1 {
		count, end := wholeAt(places, cut)
		wantRecs(t, "cut", 4, file[:cut], recs[:count], end)
		for _, torn := range []string{"\x00", "\xff", "torn", fileOf(recs[1])[:7]} {
			if count, end := wholeAt(places, cut); cut == end { // just behind a frame
				wantRecs(t, "cut, and bytes behind", 4, file[:cut]+torn, recs[:count], end)
			}
		}
	}
}

// A frame is whole, but what it has is no record: those behind it are not read.
func TestReadRecsOfFramesThatAreNoRecords(t *testing.T) {
	recs := someRecs()
	none := []string{"torn", "\x00", "\x04", "\x01\x01\x01\x01", "\x01\x01\x01\x01\x00\x00", "\x00\x01\x01\x01\x00", "\x04\x01\x01\x01\x00", "\x01\x81\x00\x01\x01\x00",
		"\x01" + numByWords(impl.MaxNum+1) + "\x01\x01\x00", "\x02\x01\x00", "\x03\x00", "\x03\x05\x01\x03\x00\x00", "\x03\x04\x01\x03\x04\x00", strings.Repeat("\x01", impl.MaxRecord)}
	for _, text := range none {
		if _, right := readRecByWords(4, text); right {
			t.Fatalf("%q is a record", text)
		}
		for at := range len(recs) + 1 {
			ahead := fileOf(recs[:at]...)
			wantRecs(t, "no record behind frames", 4, ahead+frameByWords(text), recs[:at], len(ahead))
			wantRecs(t, "no record among frames", 4, ahead+frameByWords(text)+fileOf(recs...), recs[:at], len(ahead))
			wantRecs(t, "no frame among frames", 4, ahead+text+fileOf(recs...), recs[:at], len(ahead))
		}
	}
	for why, wrong := range wrongFrames() {
		wantRecs(t, why, 4, fileOf(recs...)+wrong, recs, len(fileOf(recs...)))
		wantRecs(t, why, 4, wrong+fileOf(recs...), nil, 0)
	}
}

// Of the same file other numbers of vertices make other records: questions are ones whatever the graph.
func TestReadRecsOfOtherVertices(t *testing.T) {
	recs := someRecs()
	for _, n := range append(numbersOutOf(1, impl.MaxVerts), countTo(impl.MaxVerts+1)...) {
		if n != 4 {
			wantRecs(t, "of other vertices", n, fileOf(recs...), recs[:1], 10)
		}
		wantRecs(t, "questions alone", n, fileOf(recs[0], recs[3]), []impl.Rec{recs[0], recs[3]}, len(fileOf(recs[0], recs[3])))
	}
}

func TestReadRecsLimits(t *testing.T) {
	recs := []impl.Rec{}
	for at := range impl.MaxText / 10 {
		recs = append(recs, takeRec(at%128, 1, at/128, 0))
	}
	file := fileOf(recs...)
	if len(file) != impl.MaxText {
		t.Fatalf("the file has %d bytes", len(file))
	}
	wantRecs(t, "MaxText bytes", 4, file, recs, impl.MaxText)
	wantRecs(t, "MaxText bytes less one", 4, file[:len(file)-1], recs[:len(recs)-1], impl.MaxText-10)
	wantRecs(t, "a byte more", 4, file+"\x01", nil, 0)
	wantRecs(t, "a frame more", 4, file+fileOf(recs[0]), nil, 0)
	wantRecs(t, "bytes up to MaxText", 4, fileOf(recs[0])+strings.Repeat("\x00", impl.MaxText-10), recs[:1], 10)
	wantRecs(t, "bytes up to one more", 4, fileOf(recs[0])+strings.Repeat("\x00", impl.MaxText-9), nil, 0)
}

// journal is a file of records, and now and then of something that is none, or with a byte that is turned.
func (n *drawnNumber) journal(verts int) string {
	file := ""
	for range n.below(7) {
		r := obeyRec(n.command(verts))
		switch n.below(3) {
		case 0:
			r = takeRec(n.below(300), n.below(6), n.below(14), n.below(14))
		case 1:
			r = hearRec(n.below(5), n.reply(verts))
		}
		frame := fileOf(r)
		switch n.below(15) {
		case 0:
			frame = frame[:n.below(len(frame))]
		case 1:
			frame = frameByWords(n.text(1 + n.below(9)))
		case 2:
			text := []byte(recTextByWords(r))
			text[n.below(len(text))] ^= 1 << n.below(8)
			frame = frameByWords(string(text))
		}
		file += frame
	}
	if file != "" && n.below(4) == 0 {
		at := n.below(len(file))
		file = file[:at] + n.text(1) + file[at+1:]
	}
	return file
}

func TestReadRecsOfDrawnFiles(t *testing.T) {
	drawn, whole, torn := drawnNumber(135), 0, 0
	for at := range 3000 {
		n := 1 + at%impl.MaxVerts
		file := drawn.journal(n)
		if wantRecsByWords(t, "drawn", n, file) == len(file) {
			whole++
		} else {
			torn++
		}
		wantRecsByWords(t, "drawn, of other vertices", 1+(n+drawn.below(11))%impl.MaxVerts, file)
	}
	if whole < 500 || torn < 500 {
		t.Errorf("of the drawn files %d are whole, %d torn", whole, torn)
	}
}

func sameActs(a, b []impl.Act) bool { return slices.Equal(a, b) }

func wantLogged(t *testing.T, why string, d impl.Disk, n int, r impl.Rec) []impl.Act {
	t.Helper()
	want := []impl.Act{actAdd("log", fileOf(r)), actKeep("log")}
	got, ok := impl.LogActs(d, n, r)
	if !ok || !sameActs(got, want) {
		t.Fatalf("%s: LogActs(%s, %d, %v) = %s, %v; want %s, true", why, tell(d), n, r, tell(got), ok, tell(want))
	}
	return got
}

// keptDisk has files of which all is kept, as the power leaves them; texts is names and texts by turns, by name.
func keptDisk(texts ...string) impl.Disk {
	d := impl.Disk{}
	for at := 0; at < len(texts); at += 2 {
		d.Files = append(d.Files, impl.File{Name: texts[at], Text: texts[at+1], Kept: len(texts[at+1])})
	}
	return d
}

// logDisks have no log, a log of some records, one that is torn, other files ahead of it and behind it.
func logDisks() map[string]impl.Disk {
	file := fileOf(someRecs()...)
	return map[string]impl.Disk{
		"nothing":                 {},
		"no log":                  keptDisk("a", "1", "log+", "2", "z", "3"),
		"an empty log":            keptDisk("log", ""),
		"a log of one record":     keptDisk("log", fileOf(someRecs()[0])),
		"a log":                   keptDisk("log", file),
		"a log among other files": keptDisk("a", "1", "lof", file, "log", file, "log+", file, "logs", "5"),
		"a log like others":       keptDisk("LOG", "1", "Log", "2", "lo", "3", "log", file),
	}
}

func TestLogActsByHand(t *testing.T) {
	acts, ok := impl.LogActs(impl.Disk{}, 4, takeRec(1, impl.AskAdd, 1, 0))
	sum := inFourBytes(sumByBits(4294967295, "\x01\x01\x01\x01\x00"))
	want := []impl.Act{{Kind: impl.ActAdd, Name: "log", Text: "\x05" + sum + "\x01\x01\x01\x01\x00"}, {Kind: impl.ActKeep, Name: "log"}}
	if !ok || !sameActs(acts, want) {
		t.Errorf("LogActs = %s, %v; want %s", tell(acts), ok, tell(want))
	}
}

// What is told is the same whatever the disk, also of one that is not right, or that has no room.
func TestLogActsOfEveryDisk(t *testing.T) {
	disks := []impl.Disk{fullDisk(impl.MaxFiles), keptDisk("log", strings.Repeat("t", impl.MaxText)), keptDisk("log", "torn"), diskOf(impl.File{Name: "log", Text: "not kept", Kept: 3})}
	for _, list := range []map[string]impl.Disk{logDisks(), rightDisks(), wrongDisks()} {
		for _, d := range list {
			disks = append(disks, d)
		}
	}
	for _, d := range disks {
		for _, r := range someRecs() {
			wantLogged(t, "of a disk", d, 4, r)
		}
	}
	for _, c := range everyFew(rightRecs(), 3) {
		wantLogged(t, "of a record", impl.Disk{}, c.n, c.what)
	}
}

func TestLogActsOfWrongRecords(t *testing.T) {
	for why, cases := range wrongRecs() {
		for _, c := range everyFew(cases, 2) {
			for _, d := range []impl.Disk{{}, logDisks()["a log"]} {
				if got, ok := impl.LogActs(d, c.n, c.what); ok || len(got) != 0 {
					t.Errorf("%s: LogActs of %v = %s, %v; want nothing, false", why, c.what, tell(got), ok)
				}
			}
		}
	}
}

func wantDiskRecs(t *testing.T, why string, d impl.Disk, n int, want ...impl.Rec) {
	t.Helper()
	file, _ := impl.FileAt(d, "log")
	if got, _ := impl.ReadRecs(n, file); !sameRecs(got, want) {
		t.Fatalf("%s: the log of %s has the records %v; want %v", why, tell(d), got, want)
	}
}

func diskRecs(d impl.Disk, n int) []impl.Rec {
	file, _ := impl.FileAt(d, "log")
	recs, _ := readRecsByWords(n, file)
	return recs
}

// leftOf has lists that leave so much of the file of this name, and of the others none, some or all.
func leftOf(d impl.Disk, name string, size int) [][]int {
	lists := [][]int{}
	for _, other := range []int{-1, 0, 3, math.MaxInt} {
		left := []int{}
		for _, f := range d.Files {
			if f.Name == name {
				left = append(left, size)
			} else {
				left = append(left, other)
			}
		}
		lists = append(lists, left)
	}
	return lists
}

func TestLoggedRecordsAreThere(t *testing.T) {
	for why, d := range logDisks() {
		before := diskRecs(d, 4)
		for _, r := range someRecs() {
			got, done := impl.DoActs(d, wantLogged(t, why, d, 4, r))
			if done != 2 || !impl.AllKept(got) {
				t.Fatalf("%s: %d acts are done, and the disk is %s", why, done, tell(got))
			}
			was, _ := impl.FileAt(d, "log")
			file, _ := impl.FileAt(got, "log")
			before = append(before, r)
			if d = got; file != was+fileOf(r) {
				t.Fatalf("%s: the log is %q; want %q", why, file, was+fileOf(r))
			}
			wantRecs(t, why, 4, file, before, len(file))
		}
	}
}

// Whatever the power leaves of a record's acts, it is there whole or not at all; all that was there ahead of it is there still.
func TestLoggedRecordsAreWholeOrNotAtAll(t *testing.T) {
	for why, d := range logDisks() {
		before := diskRecs(d, 4)
		was, _ := impl.FileAt(d, "log")
		for _, r := range someRecs() {
			acts, size := wantLogged(t, why, d, 4, r), len(was)+len(fileOf(r))
			added, _ := impl.DoActs(d, acts[:1])
			there := append(slices.Clone(before), r)
			for cut := -1; cut <= size+1; cut++ {
				for _, left := range leftOf(added, "log", cut) {
					for whole := range 3 {
						got, ok := impl.CutActs(d, acts, whole, left)
						if !ok {
							t.Fatalf("%s: CutActs at %d is false", why, whole)
						}
						if whole == 2 || whole == 1 && cut >= size {
							wantDiskRecs(t, why+", and it is there", got, 4, there...)
						} else {
							wantDiskRecs(t, why+", and it is not there", got, 4, before...)
						}
					}
				}
			}
		}
	}
}

// Where there is no room the acts are told, but not done: the disk is as it was.
func TestLogActsWithoutRoom(t *testing.T) {
	r, file := someRecs()[0], strings.Repeat(fileOf(someRecs()[0]), impl.MaxText/10)
	for _, d := range []impl.Disk{keptDisk("log", file), fullDisk(impl.MaxFiles)} {
		if got, done := impl.DoActs(d, wantLogged(t, "no room", d, 4, r)); done != 0 || !sameDisk(got, d) {
			t.Errorf("%d acts are done on a disk without room", done)
		}
	}
	d := keptDisk("log", file[10:])
	if got, done := impl.DoActs(d, wantLogged(t, "just room", d, 4, r)); done != 2 || !sameDisk(got, keptDisk("log", file)) {
		t.Errorf("%d acts are done on a disk with just room", done)
	}
}

func wantMended(t *testing.T, why string, d impl.Disk, n int, want ...impl.Act) []impl.Act {
	t.Helper()
	got, ok := impl.MendActs(d, n)
	if !ok || !sameActs(got, want) {
		t.Fatalf("%s: MendActs(%s, %d) = %s, %v; want %s, true", why, tell(d), n, tell(got), ok, tell(want))
	}
	return got
}

func mendByWords(d impl.Disk, n int) []impl.Act {
	file, found, acts := "", false, []impl.Act{}
	for _, f := range d.Files {
		if f.Name == "log" {
			file = f.Text
		}
		found = found || f.Name == "log+"
	}
	_, end := readRecsByWords(n, file)
	if end == len(file) {
		return acts
	}
	if found {
		acts = append(acts, actDrop("log+"))
	}
	return append(acts, actAdd("log+", file[:end]), actKeep("log+"), actMove("log+", "log"))
}

func TestMendActsByHand(t *testing.T) {
	one := frameByWords("\x01\x01\x01\x01\x00")
	mended := []impl.Act{{Kind: impl.ActAdd, Name: "log+", Text: one}, {Kind: impl.ActKeep, Name: "log+"}, {Kind: impl.ActMove, Name: "log+", To: "log"}}
	drop := impl.Act{Kind: impl.ActDrop, Name: "log+"}
	none := slices.Clone(mended)
	none[0].Text = ""
	wantMended(t, "no files", impl.Disk{}, 4)
	wantMended(t, "no log", keptDisk("a", "1", "lo", "2", "log+", "3", "logs", "4"), 4)
	wantMended(t, "an empty log", keptDisk("log", ""), 4)
	wantMended(t, "a log of records alone", keptDisk("log", one+one), 4)
	wantMended(t, "a log of records alone, and log+", keptDisk("log", one+one, "log+", "torn"), 4)
	wantMended(t, "an empty log, and log+", keptDisk("log", "", "log+", one), 4)
	wantMended(t, "bytes behind", keptDisk("log", one+"torn"), 4, mended...)
	wantMended(t, "one byte behind", keptDisk("log", one+"\x05"), 4, mended...)
	wantMended(t, "a frame less one byte behind", keptDisk("log", one+one[:9]), 4, mended...)
	wantMended(t, "bytes behind, and an empty log+", keptDisk("log", one+"torn", "log+", ""), 4, append([]impl.Act{drop}, mended...)...)
	wantMended(t, "bytes behind, and log+", keptDisk("a", "1", "log", one+"torn", "log+", one, "z", "2"), 4, append([]impl.Act{drop}, mended...)...)
	wantMended(t, "bytes behind, and log+ that is not kept", diskOf(impl.File{Name: "log", Text: one + "torn"}, impl.File{Name: "log+", Text: one + one, Kept: 4}), 4, append([]impl.Act{drop}, mended...)...)
	wantMended(t, "bytes alone", keptDisk("log", "torn"), 4, none...)
	wantMended(t, "bytes alone, and log+", keptDisk("log", "torn", "log+", one), 4, append([]impl.Act{drop}, none...)...)
	wantMended(t, "a frame that is no record behind", keptDisk("log", one+frameByWords("\x04")+one), 4, mended...)
}

func TestMendActsOfWrongDisks(t *testing.T) {
	disks := wrongDisks()
	long, one := strings.Repeat("t", impl.MaxText+1), fileOf(someRecs()[0])
	disks["a log too long"] = keptDisk("log", long)
	disks["a log that is torn, Kept below 0"] = diskOf(impl.File{Name: "log", Text: one + "torn", Kept: -1})
	disks["a log that is whole, Kept above its length"] = diskOf(impl.File{Name: "log", Text: one, Kept: len(one) + 1})
	disks["two logs"] = keptDisk("log", one, "log", one+"torn")
	disks["log+ ahead of the log"] = keptDisk("log+", one, "log", one+"torn")
	disks["log+ too long"] = keptDisk("log", one+"torn", "log+", long)
	for why, d := range disks {
		for _, n := range []int{0, 1, 4, impl.MaxVerts + 1} {
			if got, ok := impl.MendActs(d, n); ok || len(got) != 0 {
				t.Errorf("%s: MendActs is %s, %v; want nothing, false", why, tell(got), ok)
			}
		}
	}
}

// tornDisks have a log that is to be mended; what is there of log+ is what the power may have left, or anything else.
func tornDisks() []impl.Disk {
	file, disks := fileOf(someRecs()...), []impl.Disk{}
	ahead := []string{"", fileOf(someRecs()[:1]...), file}
	torn := []string{"\x00", "torn", file[:9], fileOf(someRecs()[1])[:15], frameByWords("\x04") + file}
	for _, whole := range ahead {
		for _, behind := range torn {
			log := whole + behind
			disks = append(disks, keptDisk("log", log), keptDisk("log", log, "log+", ""), keptDisk("log", log, "log+", whole), keptDisk("log", log, "log+", "torn"),
				keptDisk("log", log, "log+", log), keptDisk("log", log, "log+", whole[:len(whole)/2]), keptDisk("a", "1", "log", log, "log+", file, "z", log))
			spare := keptDisk("lof", "5", "log", log, "log+", whole+file)
			spare.Files[2].Kept = 3
			disks = append(disks, spare)
		}
	}
	return disks
}

func withoutFiles(d impl.Disk, names ...string) []impl.File {
	return slices.DeleteFunc(slices.Clone(d.Files), func(f impl.File) bool { return slices.Contains(names, f.Name) })
}

func TestMendedLogsHaveJustTheirRecords(t *testing.T) {
	for _, d := range tornDisks() {
		recs := diskRecs(d, 4)
		acts := wantMended(t, "torn", d, 4, mendByWords(d, 4)...)
		got, done := impl.DoActs(d, acts)
		file, found := impl.FileAt(got, "log")
		if done != len(acts) || done < 3 || !found || file != fileOf(recs...) {
			t.Fatalf("of %d acts %d are done, and the log of %s is %q", len(acts), done, tell(got), file)
		}
		if _, found := impl.FileAt(got, "log+"); found || !slices.Equal(withoutFiles(got, "log"), withoutFiles(d, "log", "log+")) {
			t.Fatalf("of %s there is %s, mended", tell(d), tell(got))
		}
		wantDiskRecs(t, "mended", got, 4, recs...)
		wantMended(t, "mended already", got, 4)
		for _, r := range someRecs() { // what is written now is read
			got, _ = impl.DoActs(got, wantLogged(t, "mended", got, 4, r))
			recs = append(recs, r)
			wantDiskRecs(t, "mended", got, 4, recs...)
		}
	}
}

// At each place at which the power goes the log has the records that it had, and can be mended then.
func TestMendingThatIsCut(t *testing.T) {
	for _, d := range tornDisks() {
		recs := diskRecs(d, 4)
		acts := wantMended(t, "torn", d, 4, mendByWords(d, 4)...)
		for whole := range len(acts) + 1 {
			at, _ := impl.DoActs(d, acts[:whole])
			text, _ := impl.FileAt(at, "log+")
			for size := -1; size <= len(text)+1; size++ {
				for _, left := range leftOf(at, "log+", size)[:2] {
					got, ok := impl.CutActs(d, acts, whole, left)
					if !ok {
						t.Fatalf("CutActs at %d of %s is false", whole, tell(acts))
					}
					wantDiskRecs(t, "cut", got, 4, recs...)
					again, _ := impl.MendActs(got, 4)
					if whole == len(acts) && len(again) != 0 {
						t.Fatalf("behind all acts there is to be mended %s", tell(again))
					}
					mended, done := impl.DoActs(got, again)
					file, _ := impl.FileAt(mended, "log")
					if done != len(again) || file != fileOf(recs...) || !impl.AllKept(mended) {
						t.Fatalf("mended again, the disk is %s", tell(mended))
					}
				}
			}
		}
	}
}

func TestMendActsOfOtherVertices(t *testing.T) {
	recs := someRecs()
	for _, n := range append(numbersOutOf(1, impl.MaxVerts), countTo(impl.MaxVerts+1)...) {
		d := keptDisk("log", fileOf(recs...), "log+", "torn")
		if n == 4 {
			wantMended(t, "of its vertices", d, n)
		} else {
			wantMended(t, "of other vertices", d, n, actDrop("log+"), actAdd("log+", fileOf(recs[0])), actKeep("log+"), actMove("log+", "log"))
		}
		wantMended(t, "questions alone", keptDisk("log", fileOf(recs[0], recs[3])), n)
	}
}

func TestMendActsOfAsMuchAsMayBe(t *testing.T) {
	file := strings.Repeat(fileOf(someRecs()[0]), impl.MaxText/10)
	wantMended(t, "MaxText bytes of records", keptDisk("log", file), 4)
	torn := keptDisk("log", file[:len(file)-1])
	got, done := impl.DoActs(torn, wantMended(t, "MaxText bytes less one", torn, 4, mendByWords(torn, 4)...))
	if done != 3 || !sameDisk(got, keptDisk("log", file[:len(file)-10])) {
		t.Errorf("%d acts are done, and the log has %d bytes", done, len(got.Files[0].Text))
	}
	full := fullDisk(impl.MaxFiles)
	full.Files[0] = impl.File{Name: "log", Text: "torn", Kept: 4} // ahead of the others, and no room for log+
	acts := wantMended(t, "no room", full, 4, actAdd("log+", ""), actKeep("log+"), actMove("log+", "log"))
	if got, done := impl.DoActs(full, acts); done != 0 || !sameDisk(got, full) {
		t.Errorf("%d acts are done on a disk without room", done)
	}
}

func TestMendActsOfDrawnDisks(t *testing.T) {
	drawn, nothing, mended := drawnNumber(136), 0, 0
	for at := range 2000 {
		n, d := 1+at%impl.MaxVerts, impl.Disk{}
		for _, name := range []string{"a", "log", "log+", "z"} {
			if drawn.below(4) > 0 {
				text := drawn.journal(n)
				d.Files = append(d.Files, impl.File{Name: name, Text: text, Kept: drawn.below(len(text) + 1)})
			}
		}
		acts := wantMended(t, "drawn", d, n, mendByWords(d, n)...)
		if len(acts) == 0 {
			nothing++
			continue
		}
		mended++
		recs := diskRecs(d, n)
		got, done := impl.DoActs(d, acts)
		if done != len(acts) {
			t.Fatalf("of %d acts %d are done on %s", len(acts), done, tell(d))
		}
		wantDiskRecs(t, "drawn", got, n, recs...)
		wantMended(t, "mended already", got, n)
	}
	if nothing < 300 || mended < 300 {
		t.Errorf("%d disks are whole, %d mended", nothing, mended)
	}
}

// On a log that is torn and not mended a new record is not read, nor a piece of it.
func TestLoggedRecordsBehindATornOne(t *testing.T) {
	for _, d := range tornDisks() {
		before := diskRecs(d, 4)
		for _, r := range someRecs() {
			acts := wantLogged(t, "torn", d, 4, r)
			for whole := range 3 {
				for _, size := range []int{0, 15, 40, 90, math.MaxInt} {
					got, _ := impl.CutActs(d, acts, whole, slices.Repeat([]int{size}, 5))
					wantDiskRecs(t, "behind a torn one", got, 4, before...)
				}
			}
		}
	}
}

// node is a disk on which a life is written, and which the power may take away at any act.
type node struct {
	disk impl.Disk
	lost int
}

// cutWrite writes with the power going on the way; it tells what there is to be read then.
func (w *node) cutWrite(t *testing.T, drawn *drawnNumber, n int, r impl.Rec) []impl.Rec {
	t.Helper()
	acts := wantLogged(t, "in a life", w.disk, n, r)
	left := []int{}
	for range 3 {
		left = append(left, drawn.below(1200)-5)
	}
	file, _ := impl.FileAt(w.disk, "log")
	if drawn.below(2) == 0 { // within the new record
		left = slices.Repeat([]int{len(file) + drawn.below(len(acts[0].Text)+1)}, 3)
	}
	cut, ok := impl.CutActs(w.disk, acts, drawn.below(3), left)
	if !ok {
		t.Fatalf("CutActs of %s is false", tell(acts))
	}
	w.disk = cut
	w.mend(t, drawn, n)
	return diskRecs(w.disk, n)
}

// mend is itself cut a few times, ahead of being done.
func (w *node) mend(t *testing.T, drawn *drawnNumber, n int) {
	t.Helper()
	for range drawn.below(3) {
		acts := wantMended(t, "in a life", w.disk, n, mendByWords(w.disk, n)...)
		w.disk, _ = impl.CutActs(w.disk, acts, drawn.below(len(acts)+1), []int{drawn.below(1200), drawn.below(1200), 0})
	}
	acts := wantMended(t, "in a life", w.disk, n, mendByWords(w.disk, n)...)
	mended, done := impl.DoActs(w.disk, acts)
	if done != len(acts) {
		t.Fatalf("of %s %d are done", tell(acts), done)
	}
	w.disk = mended
	wantMended(t, "mended already", w.disk, n)
}

// write goes on until the record is there: a write that the power cuts leaves all records ahead of it, and it whole or not at all.
func (w *node) write(t *testing.T, drawn *drawnNumber, n int, page []impl.Rec) {
	t.Helper()
	before, r := page[:len(page)-1], page[len(page)-1]
	for drawn.below(2) == 0 {
		recs := w.cutWrite(t, drawn, n, r)
		if sameRecs(recs, page) {
			return
		}
		if w.lost++; !sameRecs(recs, before) {
			t.Fatalf("of %d records %v are left", len(page), recs)
		}
	}
	disk, done := impl.DoActs(w.disk, wantLogged(t, "in a life", w.disk, n, r))
	if w.disk = disk; done != 2 {
		t.Fatalf("of two acts %d are done", done)
	}
}

// Head and shards come back from their disks, whatever the power takes of what is being written.
func TestLivesComeBackFromTheirDisks(t *testing.T) {
	drawn, lost := drawnNumber(137), 0
	for at := range 24 {
		n, shards := 1+at%12, 1+at%3
		d, nodes := newDiary(n, shards), make([]node, shards+1)
		for id := 1; id <= 24; id++ {
			d.ask(drawn.livelyOf(id, d), func(at int) {
				nodes[at].write(t, &drawn, n, d.pages[at])
				file, _ := impl.FileAt(nodes[at].disk, "log")
				recs, end := impl.ReadRecs(n, file)
				if end != len(file) || !sameRecs(recs, d.pages[at]) {
					t.Fatalf("the log has %d bytes, of which %d are the records %v", len(file), end, recs)
				}
				d.wantAsItWas(t, "from its disk", at, recs)
			})
		}
		for _, w := range nodes {
			lost += w.lost
		}
	}
	if lost < 100 {
		t.Errorf("only %d records were lost on the way", lost)
	}
}

// recWithin is a copy whose lists have room behind them, which nobody may write into.
func recWithin(r impl.Rec) impl.Rec {
	e := edge(77, 78)
	r.Answer.Edges, r.Answer.Labels, r.Order.Edges = within(r.Answer.Edges, e), within(r.Answer.Labels, 77), within(r.Order.Edges, e)
	return r
}

func recsWithin(recs []impl.Rec) []impl.Rec {
	room := []impl.Rec{}
	for _, r := range recs {
		room = append(room, recWithin(r))
	}
	return within(room, takeRec(77, 77, 77, 77))
}

func wantRecUntouched(t *testing.T, r, was impl.Rec) {
	t.Helper()
	e := edge(77, 78)
	wantListUntouched(t, r.Answer.Edges, was.Answer.Edges, e)
	wantListUntouched(t, r.Answer.Labels, was.Answer.Labels, 77)
	wantListUntouched(t, r.Order.Edges, was.Order.Edges, e)
	if !sameRec(r, was) {
		t.Fatalf("the record is now %v; it was %v", r, was)
	}
}

func wantRecsUntouched(t *testing.T, recs, was []impl.Rec) {
	t.Helper()
	if len(recs) != len(was) {
		t.Fatalf("there are %d records now; there were %d", len(recs), len(was))
	}
	for at := range recs {
		wantRecUntouched(t, recs[at], was[at])
	}
	for _, r := range recs[len(recs) : len(recs)+4] {
		if !sameRec(r, takeRec(77, 77, 77, 77)) {
			t.Fatalf("in the room behind the records is %v now", r)
		}
	}
}

func wantRecsApart(t *testing.T, lists ...[]impl.Rec) {
	t.Helper()
	edges, labels := [][]impl.Edge{}, [][]int{}
	for _, list := range lists {
		for _, r := range list {
			edges, labels = append(edges, r.Answer.Edges, r.Order.Edges), append(labels, r.Answer.Labels)
		}
	}
	wantApart(t, "records", lists...)
	wantApart(t, "edges of records", edges...)
	wantApart(t, "labels of records", labels...)
}

func spoilRecs(recs []impl.Rec) {
	for _, r := range recs {
		spoil(r.Answer.Edges, edge(99, 99))
		spoil(r.Answer.Labels, 99)
		spoil(r.Order.Edges, edge(99, 99))
	}
	spoil(recs, impl.Rec{Kind: 99})
}

func TestRecordsLeaveArgumentsAlone(t *testing.T) {
	cases := everyFew(rightRecs(), 5)
	for _, wrong := range wrongRecs() {
		cases = append(cases, everyFew(wrong, 3)...)
	}
	for _, c := range cases {
		r := recWithin(c.what)
		text, ok := impl.RecText(c.n, r)
		again, _ := impl.RecText(c.n, r)
		acts, _ := impl.LogActs(impl.Disk{}, c.n, r)
		if ok && (sharesMemory(text, again) || sharesMemory(again, text) || sharesMemory(text, acts[0].Text)) {
			t.Fatalf("two texts of %v share memory", r)
		}
		one, _ := impl.ReadRec(c.n, text)
		two, _ := impl.ReadRec(c.n, text)
		wantRecsApart(t, []impl.Rec{r}, []impl.Rec{one}, []impl.Rec{two})
		spoilRecs([]impl.Rec{one})
		if ok && !sameRec(two, c.what) {
			t.Fatalf("the record is now %v; want %v", two, c.what)
		}
		wantRecUntouched(t, r, c.what)
	}
}

func TestReadRecsAnswersWithNewMemory(t *testing.T) {
	recs := slices.Concat(someRecs(), someRecs(), someRecs()[1:3])
	file := fileOf(recs...)
	for range 3 {
		one, _ := impl.ReadRecs(4, file)
		two, _ := impl.ReadRecs(4, file)
		wantRecsApart(t, one, two)
		spoilRecs(one)
		if !sameRecs(two, recs) {
			t.Fatalf("the records are now %v", two)
		}
	}
}

// Heads and shards share no memory with the records that they come from, nor with one another.
func TestLivesLeaveTheirRecordsAlone(t *testing.T) {
	drawn := drawnNumber(138)
	for at := range 36 {
		n, shards := 1+at%12, 1+at/12
		d := drawn.lived(n, shards, 10)
		for node, page := range d.pages {
			for count := range len(page) + 1 {
				was := page[:count]
				recs := recsWithin(was)
				if node == 0 {
					wantHeadFromApart(t, n, shards, recs)
				} else {
					wantShardFromApart(t, node, n, recs)
				}
				wantRecsUntouched(t, recs, was)
			}
		}
	}
	wrong := []impl.Rec{takeRec(1, 3, 0, 0), obeyRec(orderOf(1, impl.OrderAccept, 0, edge(0, 1))), hearRec(1, answerOf(1, true, []impl.Edge{edge(0, 1)}, 0, 0))}
	recs := recsWithin(wrong)
	impl.HeadFrom(2, 1, recs)
	impl.ShardFrom(1, 2, recs)
	wantRecsUntouched(t, recs, wrong)
}

func wantHeadFromApart(t *testing.T, n, shards int, recs []impl.Rec) {
	t.Helper()
	one, _ := impl.HeadFrom(n, shards, recs)
	two, _ := impl.HeadFrom(n, shards, recs)
	want := headWithin(two)
	for _, r := range recs {
		wantHeadsApart(t, r.Answer.Labels, r.Answer.Edges, one)
	}
	wantHeadsApart(t, nil, nil, one, two)
	if spoilHead(one); !sameHead(two, want) {
		t.Fatalf("the head is now %v; want %v", two, want)
	}
}

func wantShardFromApart(t *testing.T, id, n int, recs []impl.Rec) {
	t.Helper()
	one, _ := impl.ShardFrom(id, n, recs)
	two, _ := impl.ShardFrom(id, n, recs)
	want := shardWithin(two)
	edges := [][]impl.Edge{one.Last.Edges, two.Last.Edges}
	for _, r := range recs {
		edges = append(edges, r.Order.Edges)
	}
	wantApart(t, "edges", edges...)
	wantApart(t, "labels", one.Last.Labels, two.Last.Labels)
	wantApart(t, "webs", one.Web.Edges, two.Web.Edges)
	spoilAnswer(one.Last)
	if spoil(one.Web.Edges, inForest(9, 9, 9)); !sameShard(two, want) {
		t.Fatalf("the shard is now %v; want %v", two, want)
	}
}

func TestActsOfJournalsLeaveDisksAlone(t *testing.T) {
	disks := tornDisks()
	for _, list := range []map[string]impl.Disk{logDisks(), wrongDisks()} {
		for _, d := range list {
			disks = append(disks, d)
		}
	}
	for _, was := range disks {
		d := impl.Disk{Files: filesWithin(was.Files)}
		for _, r := range someRecs() {
			logged, _ := impl.LogActs(d, 4, r)
			again, _ := impl.LogActs(d, 4, r)
			mended, _ := impl.MendActs(d, 4)
			other, _ := impl.MendActs(d, 4)
			wantApart(t, "acts", logged, again, mended, other)
			for _, a := range slices.Concat(logged, again, mended, other) {
				for _, f := range d.Files {
					if a.Text != "" && sharesMemory(f.Text, a.Text) {
						t.Fatalf("the text of %s is a piece of a file", tell(a))
					}
				}
			}
			spoil(logged, impl.Act{Kind: 99})
			spoil(mended, impl.Act{Kind: 99})
			if !sameActs(again, []impl.Act{actAdd("log", fileOf(r)), actKeep("log")}) || impl.DiskOk(was) && !sameActs(other, mendByWords(was, 4)) {
				t.Fatalf("the acts are now %s and %s", tell(again), tell(other))
			}
		}
		if want := filesWithin(was.Files); !slices.Equal(d.Files[:cap(d.Files)], want[:cap(want)]) {
			t.Fatalf("the files, or the room behind them, are now %s", tell(d.Files[:cap(d.Files)]))
		}
	}
}
