package tests

import (
	"math"
	"runtime"
	"slices"
	"strings"
	"testing"

	"loop.example/g00130/impl"
)

func evAsk(id, op, a, b int) impl.Event {
	return impl.Event{Kind: impl.EvAsk, Ask: askOf(id, op, a, b)}
}

func evDeliver(at int) impl.Event { return impl.Event{Kind: impl.EvDeliver, At: at} }

func evDrop(at int) impl.Event { return impl.Event{Kind: impl.EvDrop, At: at} }

func evCopy(at int) impl.Event { return impl.Event{Kind: impl.EvCopy, At: at} }

func evTick(node int) impl.Event { return impl.Event{Kind: impl.EvTick, Node: node} }

func evDown(node int) impl.Event { return impl.Event{Kind: impl.EvDown, Node: node} }

func evUp(node int) impl.Event { return impl.Event{Kind: impl.EvUp, Node: node} }

// evCut is the event with the power going meanwhile.
func evCut(e impl.Event, left ...int) impl.Event {
	e.Cut, e.Left = true, left
	return e
}

func eventList(lists ...[]impl.Event) []impl.Event { return slices.Concat(lists...) }

func sameWorld(a, b impl.World) bool {
	return a.N == b.N && sameHead(a.Head, b.Head) && slices.EqualFunc(a.Shards, b.Shards, sameShard) && slices.EqualFunc(a.Disks, b.Disks, sameDisk) &&
		slices.Equal(a.Up, b.Up) && slices.Equal(a.Net, b.Net) && slices.Equal(a.Calls, b.Calls) && sameRecs(a.Done, b.Done)
}

// worldWithin is a copy whose lists have room behind them, which nobody may write into.
func worldWithin(w impl.World) impl.World {
	c := impl.World{N: w.N, Head: headWithin(w.Head), Up: within(w.Up, true), Net: within(w.Net, impl.Packet{To: 77}), Calls: within(w.Calls, impl.Call{When: 77}), Done: recsWithin(w.Done)}
	for _, s := range w.Shards {
		c.Shards = append(c.Shards, shardWithin(s))
	}
	for _, d := range w.Disks {
		c.Disks = append(c.Disks, impl.Disk{Files: filesWithin(d.Files)})
	}
	c.Shards, c.Disks = within(c.Shards, impl.Shard{Id: 77}), within(c.Disks, impl.Disk{Files: []impl.File{{Name: "spare"}}})
	return c
}

// changedWorld is a copy that is changed; the world that is handed in stays.
func changedWorld(w impl.World, change func(w *impl.World)) impl.World {
	c := worldWithin(w)
	change(&c)
	return c
}

// deed is what an event does to one node, were nothing cut: what it writes, what the node is then, what it sends.
type deed struct {
	number int
	node   int
	head   *impl.Head
	shard  *impl.Shard
	writes []impl.Rec
	sends  []impl.Packet
}

func asksByWords(w impl.World, a impl.Ask) deed {
	head, told := askedByWords(w.Head, a)
	if told == 0 {
		return deed{}
	}
	return deed{head: &head, writes: []impl.Rec{{Kind: 1, Ask: a}}}
}

func ticksByWords(w impl.World, node int) deed {
	switch {
	case !w.Up[node]:
		return deed{number: 1}
	case node > 0:
		return deed{}
	case w.Head.Task.Shard != 0:
		return deed{sends: []impl.Packet{{To: w.Head.Task.Shard, Text: orderTextByWords(w.Head.Task.Order)}}}
	}
	for _, c := range w.Calls {
		if _, said := replyByWords(w.Head, c.Ask.Id); !said {
			return asksByWords(w, c.Ask)
		}
	}
	return deed{}
}

func comesByWords(w impl.World, p impl.Packet) deed {
	if !w.Up[p.To] {
		return deed{number: 1}
	}
	if p.To == 0 {
		a, right := readAnswerByWords(w.N, p.Text)
		head, told := heardByWords(w.Head, p.From, a)
		if !right || p.From == 0 || told == 0 {
			return deed{number: 1}
		}
		return deed{head: &head, writes: []impl.Rec{{Kind: 2, Shard: p.From, Answer: a}}}
	}
	o, right := readOrderByWords(w.N, p.Text)
	was := w.Shards[p.To-1]
	shard, a, code := obeyedByWords(was, o)
	if !right || code == 1 {
		return deed{number: 1}
	}
	d := deed{node: p.To, shard: &shard, sends: []impl.Packet{{From: p.To, Text: answerTextByWords(a)}}}
	if o.Num != was.Last.Num {
		d.writes = []impl.Rec{{Kind: 3, Order: o}}
	}
	return d
}

// writtenByWords is a disk with the record; one without room, or one of a record that has no text, stays.
func writtenByWords(n int, d impl.Disk, r impl.Rec) impl.Disk {
	if !recOkByWords(n, r) {
		return d
	}
	added, ok := actByWords(d, actAdd("log", fileOf(r)))
	if !ok {
		return d
	}
	kept, _ := actByWords(added, actKeep("log"))
	return kept
}

func cutDiskByWords(d impl.Disk, r impl.Rec, left []int) impl.Disk {
	d, _ = actByWords(d, actAdd("log", fileOf(r)))
	for at := range d.Files {
		f := &d.Files[at]
		if at < len(left) {
			f.Kept = max(f.Kept, min(left[at], len(f.Text)))
		}
		f.Text = f.Text[:f.Kept]
	}
	return d
}

func (d deed) doneByWords(w *impl.World, e impl.Event) int {
	for _, r := range d.writes {
		was := w.Disks[d.node]
		if e.Cut {
			w.Disks[d.node], w.Up[d.node] = cutDiskByWords(was, r, e.Left), false
			if whole := diskRecs(w.Disks[d.node], w.N); d.node == 0 && len(whole) == len(diskRecs(was, w.N))+1 {
				w.Done = append(w.Done, r)
			}
			return 3
		}
		w.Disks[d.node] = writtenByWords(w.N, was, r)
		if d.node == 0 {
			w.Done = append(w.Done, r)
		}
	}
	if d.head != nil {
		w.Head = *d.head
	}
	if d.shard != nil {
		w.Shards[d.node-1] = *d.shard
	}
	w.Net = append(w.Net, d.sends...)
	return d.number
}

func risesByWords(w *impl.World, node int) int {
	if w.Up[node] {
		return 1
	}
	disk := w.Disks[node]
	if !impl.DiskOk(disk) {
		return 2
	}
	for _, a := range mendByWords(disk, w.N) {
		done, ok := actByWords(disk, a)
		if disk = done; !ok {
			return 2
		}
	}
	recs, come := diskRecs(disk, w.N), false
	if head := w.Head; node == 0 {
		if head, come = headFromByWords(w.N, len(w.Shards), recs); come {
			w.Head = head
		}
	} else if shard, ok := shardFromByWords(node, w.N, recs); ok {
		w.Shards[node-1], come = shard, true
	}
	if !come {
		return 2
	}
	w.Disks[node], w.Up[node] = disk, true
	return 0
}

func passesByWords(w *impl.World, e impl.Event) int {
	if len(w.Net) == 0 {
		return 1
	}
	at := e.At % len(w.Net)
	p := w.Net[at]
	if e.Kind == 4 {
		w.Net = append(w.Net, p)
		return 0
	}
	w.Net = slices.Concat(w.Net[:at], w.Net[at+1:])
	if e.Kind == 3 {
		return 0
	}
	return comesByWords(*w, p).doneByWords(w, e)
}

func happensByWords(w *impl.World, e impl.Event, place int) int {
	switch e.Kind {
	case 1:
		if !slices.ContainsFunc(w.Calls, func(c impl.Call) bool { return c.Ask.Id == e.Ask.Id }) {
			w.Calls = append(w.Calls, impl.Call{Ask: e.Ask, When: place, Told: -1})
		}
		if !w.Up[0] {
			return 1
		}
		return asksByWords(*w, e.Ask).doneByWords(w, e)
	case 5:
		return ticksByWords(*w, e.Node).doneByWords(w, e)
	case 6:
		was := w.Up[e.Node]
		if w.Up[e.Node] = false; !was {
			return 1
		}
		return 0
	case 7:
		return risesByWords(w, e.Node)
	}
	return passesByWords(w, e)
}

// eventByWords has the world that comes of an event, and its number; the world that is handed in stays.
func eventByWords(was impl.World, e impl.Event, place int) (impl.World, int) {
	w := worldWithin(was)
	number := happensByWords(&w, e, place)
	for at, c := range w.Calls {
		if say, said := replyByWords(w.Head, c.Ask.Id); w.Up[0] && said && c.Told == -1 {
			w.Calls[at].Told, w.Calls[at].Say = place, say
		}
	}
	return w, number
}

func newWorldByHand(n, shards int) impl.World {
	w := impl.World{N: n, Head: newHeadByHand(n, shards), Disks: []impl.Disk{{}, {}, {}, {}}[:shards+1], Up: []bool{true, true, true, true}[:shards+1]}
	for id := range shards {
		w.Shards = append(w.Shards, shardOf(id+1, webOf(n), impl.Answer{}))
	}
	return w
}

func lifeByWords(n, shards int, events []impl.Event) (impl.World, []int) {
	w, number, numbers := newWorldByHand(n, shards), 0, []int{}
	for at, e := range events {
		w, number = eventByWords(w, e, at)
		numbers = append(numbers, number)
	}
	return w, numbers
}

func restByWords(w impl.World, rounds int) impl.World {
	for range min(max(rounds, 0), 400) {
		for node := range w.Up {
			if !w.Up[node] {
				w, _ = eventByWords(w, evUp(node), 70)
			}
		}
		w, _ = eventByWords(w, evTick(0), 70)
		for count := 0; count < 100 && len(w.Net) > 0; count++ {
			w, _ = eventByWords(w, evDeliver(0), 70)
		}
	}
	return w
}

func wantWorld(t *testing.T, why string, got, want impl.World) {
	t.Helper()
	if !sameWorld(got, want) {
		t.Fatalf("%s: the world is %s; want %s", why, tell(got), tell(want))
	}
}

// wantRun holds the events to these numbers, and the world to the document's words.
func wantRun(t *testing.T, why string, n, shards int, events []impl.Event, numbers ...int) impl.World {
	t.Helper()
	want, words := lifeByWords(n, shards, events)
	if !slices.Equal(numbers, words) {
		t.Fatalf("%s: by the words the numbers are %v; the test wants %v", why, words, numbers)
	}
	got, told, ok := impl.RunCluster(n, shards, events)
	if !ok || !slices.Equal(told, numbers) {
		t.Fatalf("%s: the numbers of %s are %v, %v; want %v", why, tell(events), told, ok, numbers)
	}
	wantWorld(t, why, got, want)
	return got
}

// wantLived is wantRun with whatever numbers the words tell.
func wantLived(t *testing.T, why string, n, shards int, events []impl.Event) (impl.World, []int) {
	t.Helper()
	_, numbers := lifeByWords(n, shards, events)
	return wantRun(t, why, n, shards, events, numbers...), numbers
}

// wantMore holds the last events of a life to their numbers; those ahead of them have whatever numbers the words tell.
func wantMore(t *testing.T, why string, ahead, events []impl.Event, numbers ...int) impl.World {
	t.Helper()
	w, told := wantLived(t, why, 4, 2, eventList(ahead, events))
	if told = told[len(ahead):]; !slices.Equal(told, numbers) {
		t.Fatalf("%s: the last numbers are %v; want %v", why, told, numbers)
	}
	return w
}

func wantNoRun(t *testing.T, why string, n, shards int, events []impl.Event) {
	t.Helper()
	w, numbers, ok := impl.RunCluster(n, shards, events)
	if ok || len(numbers) != 0 || !sameWorld(w, impl.World{}) {
		t.Fatalf("%s: RunCluster(%d, %d) of %d events = %s, %v, %v; want nothing, nothing, false", why, n, shards, len(events), tell(w), numbers, ok)
	}
}

func TestNamesOfClusters(t *testing.T) {
	kinds := []int{impl.EvAsk, impl.EvDeliver, impl.EvDrop, impl.EvCopy, impl.EvTick, impl.EvDown, impl.EvUp}
	if !slices.Equal(kinds, []int{1, 2, 3, 4, 5, 6, 7}) || impl.MaxLife != 70 {
		t.Errorf("the Kinds are %v, MaxLife is %d", kinds, impl.MaxLife)
	}
}

func wantEventOk(t *testing.T, shards int, e impl.Event, want bool) {
	t.Helper()
	if got := impl.EventOk(shards, e); got != want {
		t.Fatalf("EventOk(%d, %s) = %v", shards, tell(e), got)
	}
}

func TestEventOkByHand(t *testing.T) {
	right := impl.Event{Kind: 1, Ask: askOf(1, 0, 0, 0)}
	full := impl.Event{Kind: 1, Node: 3, At: math.MaxInt, Ask: askOf(100000, 100000, 100000, 100000), Cut: true, Left: make([]int, 30)}
	wantEventOk(t, 1, right, true)
	wantEventOk(t, 3, full, true)
	wantEventOk(t, 2, full, false)
	full.Left = append(full.Left, 0)
	wantEventOk(t, 3, full, false)
	wantEventOk(t, 0, right, false)
	wantEventOk(t, 4, right, false)
	wantEventOk(t, 3, impl.Event{}, false)
	wantEventOk(t, 3, impl.Event{Kind: 1}, false) // its Id is 0
	wantEventOk(t, 3, impl.Event{Kind: 2}, true)
	wantEventOk(t, 3, impl.Event{Kind: 7}, true)
	wantEventOk(t, 3, impl.Event{Kind: 8}, false)
}

func TestEventOkOfEachNumber(t *testing.T) {
	right := 0
	for _, shards := range append(numbersOutOf(1, impl.MaxShards), 0, 1, 2, 3) {
		for _, kind := range append(numbersOutOf(1, 7), countTo(9)...) {
			for _, node := range append(numbersOutOf(0, impl.MaxShards), countTo(6)...) {
				for _, at := range []int{math.MinInt, -1, 0, 1, 70, math.MaxInt} {
					for _, left := range []int{0, 1, 29, 30, 31, 1000} {
						e := impl.Event{Kind: kind, Node: node, At: at, Ask: askOf(1, 1, 0, 2), Left: make([]int, left)}
						want := shards >= 1 && shards <= 3 && kind >= 1 && kind <= 7 && node >= 0 && node <= shards && at >= 0 && left <= 30
						wantEventOk(t, shards, e, want)
						if e.Cut = true; want {
							wantEventOk(t, shards, e, want)
							right++
						}
					}
				}
			}
		}
	}
	if right < 500 {
		t.Errorf("only %d events were right", right)
	}
}

// Of all Kinds but EvAsk the question is not looked at.
func TestEventOkOfQuestions(t *testing.T) {
	numbers := append(numbersOutOf(0, impl.MaxNum), 0, 1, 2, impl.MaxNum-1, impl.MaxNum, impl.MaxNumber)
	for _, number := range numbers {
		within := number >= 0 && number <= 100000
		for kind := 1; kind <= 7; kind++ {
			for _, c := range []struct {
				ask  impl.Ask
				want bool
			}{
				{askOf(number, 1, 1, 1), within && number > 0}, {askOf(1, number, 0, 0), within}, {askOf(1, 0, number, 0), within}, {askOf(1, 0, 0, number), within},
				{askOf(number, number, number, number), within && number > 0},
			} {
				wantEventOk(t, 2, impl.Event{Kind: kind, Ask: c.ask}, c.want || kind != 1)
			}
		}
	}
}

// What the power leaves may be any number.
func TestEventOkOfLeft(t *testing.T) {
	for _, left := range []int{math.MinInt, -1, 0, 1, impl.MaxText + 1, math.MaxInt} {
		for kind := 2; kind <= 7; kind++ {
			wantEventOk(t, 1, impl.Event{Kind: kind, Cut: true, Left: slices.Repeat([]int{left}, 30)}, true)
		}
	}
}

func TestWorldNewByHand(t *testing.T) {
	w, ok := impl.WorldNew(3, 2)
	want := impl.World{
		N:      3,
		Head:   impl.Head{N: 3, Own: []int{1, 2, 1}, Labels: [][]int{{0, 1, 2}, {0, 1, 2}}, Nums: []int{0, 0}},
		Shards: []impl.Shard{{Id: 1, Web: impl.Web{N: 3}}, {Id: 2, Web: impl.Web{N: 3}}},
		Disks:  []impl.Disk{{}, {}, {}}, Up: []bool{true, true, true},
	}
	if !ok || !sameWorld(w, want) {
		t.Errorf("WorldNew(3, 2) = %s, %v; want %s", tell(w), ok, tell(want))
	}
}

func TestWorldNew(t *testing.T) {
	for _, n := range append(numbersOutOf(1, impl.MaxVerts), countTo(impl.MaxVerts+1)...) {
		for _, shards := range append(numbersOutOf(1, impl.MaxShards), 0, 1, 2, 3) {
			want, right := impl.World{}, n >= 1 && n <= 12 && shards >= 1 && shards <= 3
			if right {
				want = newWorldByHand(n, shards)
			}
			w, ok := impl.WorldNew(n, shards)
			if ok != right || !sameWorld(w, want) {
				t.Fatalf("WorldNew(%d, %d) = %s, %v; want %s, %v", n, shards, tell(w), ok, tell(want), right)
			}
			if right {
				wantRun(t, "no events", n, shards, nil)
				wantRun(t, "no events", n, shards, []impl.Event{})
			} else {
				wantNoRun(t, "no such world", n, shards, nil)
				wantNoRun(t, "no such world, with an event", n, shards, []impl.Event{evTick(0)})
			}
		}
	}
}

func TestRunClusterOfAsManyEventsAsMayBe(t *testing.T) {
	one := []impl.Event{evTick(1)}
	for _, count := range []int{1, 2, impl.MaxLife - 1, impl.MaxLife} {
		wantRun(t, "ticks", 4, 2, slices.Repeat(one, count), make([]int, count)...)
	}
	for _, count := range []int{impl.MaxLife + 1, impl.MaxLife + 2, 1000, 100000} {
		wantNoRun(t, "too many", 4, 2, slices.Repeat(one, count))
	}
	asks, numbers := []impl.Event{}, []int{}
	for id := 1; id <= impl.MaxLife; id++ {
		asks, numbers = append(asks, evAsk(id, impl.AskTogether, 0, id%4)), append(numbers, 0)
	}
	w := wantRun(t, "questions", 4, 2, asks, numbers...)
	if len(w.Head.Said) != impl.MaxLife || len(w.Calls) != impl.MaxLife || w.Calls[69].Told != 69 {
		t.Errorf("of MaxLife questions %d are Said; the last call is %v", len(w.Head.Said), w.Calls[69])
	}
}

func TestRunClusterOfWrongEvents(t *testing.T) {
	life := eventList(oneQuestion(), []impl.Event{evDown(1), evUp(1)})
	wrong := []impl.Event{
		{}, {Kind: 8}, {Kind: -1}, {Kind: math.MaxInt}, {Kind: 5, Node: 3}, {Kind: 5, Node: -1}, {Kind: 7, Node: math.MinInt}, {Kind: 2, At: -1}, {Kind: 3, At: math.MinInt}, {Kind: 1},
		{Kind: 6, Left: make([]int, 31)}, evAsk(100001, 1, 0, 1), evAsk(-1, 1, 0, 1), evAsk(7, -1, 0, 1), evAsk(7, 1, 100001, 1), evAsk(7, 1, 0, -1),
	}
	for _, e := range wrong {
		for at := range len(life) + 1 {
			wantNoRun(t, "one is wrong", 4, 2, slices.Insert(slices.Clone(life), at, e))
		}
		wantNoRun(t, "it is alone", 4, 2, []impl.Event{e})
	}
	wantNoRun(t, "a node of more shards", 4, 1, []impl.Event{evTick(0), evTick(1), evTick(2)})
	wantRun(t, "a node of as many shards", 4, 2, []impl.Event{evTick(0), evTick(1), evTick(2)}, 0, 0, 0)
}

// oneQuestion is an edge that comes within the shard 1: asked, told, obeyed, heard.
func oneQuestion() []impl.Event {
	return []impl.Event{evAsk(1, impl.AskAdd, 2, 0), evTick(0), evDeliver(0), evDeliver(0)}
}

func logOf(recs ...impl.Rec) impl.Disk { return keptDisk("log", fileOf(recs...)) }

// Each step of a question, by hand: what is written where, what stands behind Net and Done, when the call is told.
func TestOneQuestionByHand(t *testing.T) {
	events, ask, order := oneQuestion(), askOf(1, impl.AskAdd, 2, 0), orderOf(1, impl.OrderAdd, 0, edge(0, 2))
	answer := answerOf(1, true, nil, 0, 1, 0, 3)
	want := newWorldByHand(4, 2)
	want.Head.Task = taskOf(ask, 1, order)
	want.Calls, want.Done = []impl.Call{{Ask: ask, When: 0, Told: -1}}, []impl.Rec{{Kind: 1, Ask: ask}}
	want.Disks[0] = logOf(want.Done...)
	wantWorld(t, "asked", wantRun(t, "asked", 4, 2, events[:1], 0), want)
	want.Net = []impl.Packet{{To: 1, From: 0, Text: "\x01\x01\x00\x01\x00\x02"}}
	wantWorld(t, "told", wantRun(t, "told", 4, 2, events[:2], 0, 0), want)
	want.Net = []impl.Packet{{To: 0, From: 1, Text: "\x01\x01\x00\x00\x01\x00\x03"}}
	want.Shards[0] = shardOf(1, webOf(4, inForest(0, 2, 0)), answer)
	want.Disks[1] = logOf(obeyRec(order))
	wantWorld(t, "obeyed", wantRun(t, "obeyed", 4, 2, events[:3], 0, 0, 0), want)
	want.Net, want.Done = nil, append(want.Done, hearRec(1, answer))
	want.Disks[0] = logOf(want.Done...)
	want.Head.Task, want.Head.Nums, want.Head.Labels[0] = impl.Task{}, []int{1, 0}, []int{0, 1, 0, 3}
	want.Head.Said = []impl.Said{saidOf(ask, impl.SayYes)}
	want.Calls[0].Told, want.Calls[0].Say = 3, impl.SayYes
	wantWorld(t, "heard", wantRun(t, "heard", 4, 2, events, 0, 0, 0, 0), want)
}

func TestQuestionsThatAreSaidAtOnce(t *testing.T) {
	w := wantRun(t, "said at once", 4, 2, []impl.Event{
		evAsk(9, impl.AskAdd, 1, 0), evAsk(8, impl.AskTogether, 0, 1), evAsk(7, 99, 0, 0), evAsk(6, impl.AskMove, 0, 1), evAsk(5, impl.AskTake, 0, 1),
	}, 0, 0, 0, 0, 0)
	says := []int{impl.SayYes, impl.SayYes, impl.SayBad, impl.SayNo, impl.SayYes}
	for at, c := range w.Calls {
		if c.When != at || c.Told != at || c.Say != says[at] || c.Ask.Id != 9-at || !sameRec(w.Done[at], impl.Rec{Kind: 1, Ask: c.Ask}) {
			t.Errorf("the call at %d is %v, behind Done stands %v", at, c, w.Done[at])
		}
	}
	if len(w.Calls) != 5 || len(w.Done) != 5 || len(w.Net) != 0 || !sameDisk(w.Disks[0], logOf(w.Done...)) || len(w.Disks[1].Files) != 0 {
		t.Errorf("the world is %s", tell(w))
	}
}

func wantCalls(t *testing.T, why string, w impl.World, want ...impl.Call) {
	t.Helper()
	if !slices.Equal(w.Calls, want) {
		t.Fatalf("%s: the calls are %v; want %v", why, w.Calls, want)
	}
}

// An Id that a call has already makes no other call, but the head is asked what comes with it.
func TestQuestionsWithOneId(t *testing.T) {
	first, other := askOf(5, impl.AskAdd, 0, 1), askOf(5, impl.AskTogether, 0, 1)
	one, two := evAsk(5, impl.AskAdd, 0, 1), evAsk(5, impl.AskTogether, 0, 1)
	w := wantRun(t, "said already", 4, 2, []impl.Event{one, two, one}, 0, 0, 0)
	wantCalls(t, "said already", w, impl.Call{Ask: first, Told: 0, Say: impl.SayYes})
	if len(w.Done) != 1 {
		t.Errorf("behind Done stands %v", w.Done)
	}
	w = wantRun(t, "not said yet", 4, 2, []impl.Event{evDown(0), one, evUp(0), two, one}, 0, 1, 0, 0, 0)
	wantCalls(t, "not said yet", w, impl.Call{Ask: first, When: 1, Told: 3, Say: impl.SayNo})
	if !slices.Equal(w.Head.Said, []impl.Said{saidOf(other, impl.SayNo)}) || !sameRecs(w.Done, []impl.Rec{{Kind: 1, Ask: other}}) {
		t.Errorf("the head has Said %v", w.Head.Said)
	}
	w = wantRun(t, "twice while the head is down", 4, 2, []impl.Event{evDown(0), one, two, evUp(0), evTick(0)}, 0, 1, 1, 0, 0)
	wantCalls(t, "twice while the head is down", w, impl.Call{Ask: first, When: 1, Told: 4, Say: impl.SayYes})
	w = wantRun(t, "the Task's", 4, 2, []impl.Event{evAsk(5, impl.AskAdd, 0, 2), evAsk(5, impl.AskAdd, 0, 2), evAsk(5, impl.AskAdd, 1, 0)}, 0, 0, 0)
	if len(w.Calls) != 1 || len(w.Done) != 1 || w.Calls[0].Told != -1 {
		t.Errorf("the calls are %v, behind Done stands %v", w.Calls, w.Done)
	}
}

// While the head is down, or Busy, a question waits as a call; the head asks for the first one when it ticks.
func TestQuestionsThatWait(t *testing.T) {
	down := []impl.Event{evDown(0), evAsk(3, impl.AskTogether, 0, 1), evAsk(2, impl.AskAdd, 0, 1), evAsk(1, impl.AskTogether, 1, 0), evTick(0), evUp(0)}
	w := wantRun(t, "down", 4, 2, down, 0, 1, 1, 1, 1, 0)
	wantCalls(t, "down", w, impl.Call{Ask: down[1].Ask, When: 1, Told: -1}, impl.Call{Ask: down[2].Ask, When: 2, Told: -1}, impl.Call{Ask: down[3].Ask, When: 3, Told: -1})
	w = wantRun(t, "ticks", 4, 2, eventList(down, []impl.Event{evTick(0), evTick(1), evTick(0), evTick(0), evTick(0)}), 0, 1, 1, 1, 1, 0, 0, 0, 0, 0, 0)
	wantCalls(t, "ticks", w, impl.Call{Ask: down[1].Ask, When: 1, Told: 6, Say: impl.SayNo}, impl.Call{Ask: down[2].Ask, When: 2, Told: 8, Say: impl.SayYes}, impl.Call{Ask: down[3].Ask, When: 3, Told: 9, Say: impl.SayYes})
	busy := []impl.Event{evAsk(1, impl.AskAdd, 0, 2), evAsk(2, impl.AskTogether, 0, 2), evTick(0), evDeliver(0), evDeliver(0)}
	w = wantRun(t, "busy", 4, 2, busy, 0, 0, 0, 0, 0)
	wantCalls(t, "busy", w, impl.Call{Ask: busy[0].Ask, When: 0, Told: 4, Say: impl.SayYes}, impl.Call{Ask: busy[1].Ask, When: 1, Told: -1})
	w = wantRun(t, "free again", 4, 2, eventList(busy, []impl.Event{evTick(0)}), 0, 0, 0, 0, 0, 0)
	wantCalls(t, "free again", w, impl.Call{Ask: busy[0].Ask, When: 0, Told: 4, Say: impl.SayYes}, impl.Call{Ask: busy[1].Ask, When: 1, Told: 5, Say: impl.SayYes})
}

func TestTicks(t *testing.T) {
	w := wantRun(t, "nothing to do", 4, 2, []impl.Event{evTick(0), evTick(1), evTick(2)}, 0, 0, 0)
	wantWorld(t, "nothing to do", w, newWorldByHand(4, 2))
	wantRun(t, "down", 4, 2, []impl.Event{evDown(0), evTick(0), evDown(2), evTick(2), evTick(1), evUp(2), evTick(2)}, 0, 1, 0, 1, 0, 0, 0)
	w = wantRun(t, "busy", 4, 2, []impl.Event{evAsk(1, impl.AskMove, 1, 1), evTick(0), evTick(0), evTick(1), evTick(2), evTick(0)}, 0, 0, 0, 0, 0, 0)
	if order := (impl.Packet{To: 2, From: 0, Text: "\x01\x03\x01\x00"}); !slices.Equal(w.Net, []impl.Packet{order, order, order}) {
		t.Errorf("under way are %v", w.Net)
	}
	if len(w.Done) != 1 {
		t.Errorf("behind Done stands %v", w.Done)
	}
	w = wantRun(t, "all are said", 4, 2, []impl.Event{evAsk(1, impl.AskTogether, 0, 0), evTick(0), evTick(0)}, 0, 0, 0)
	if len(w.Done) != 1 || len(w.Net) != 0 {
		t.Errorf("the world is %s", tell(w))
	}
}

func TestPacketsOfNobody(t *testing.T) {
	for _, at := range []int{0, 1, 70, math.MaxInt} {
		w := wantRun(t, "no Packet", 4, 2, []impl.Event{evDeliver(at), evDrop(at), evCopy(at)}, 1, 1, 1)
		wantWorld(t, "no Packet", w, newWorldByHand(4, 2))
	}
}

// threePackets are an order, the answer to it, and the order again.
func threePackets() []impl.Event {
	return []impl.Event{evAsk(1, impl.AskAdd, 0, 2), evTick(0), evTick(0), evDeliver(0), evTick(0)}
}

func TestPlacesOfPackets(t *testing.T) {
	first := wantRun(t, "three Packets", 4, 2, threePackets(), 0, 0, 0, 0, 0)
	order, answer := impl.Packet{To: 1, Text: "\x01\x01\x00\x01\x00\x02"}, impl.Packet{From: 1, Text: "\x01\x01\x00\x00\x01\x00\x03"}
	if !slices.Equal(first.Net, []impl.Packet{order, answer, order}) {
		t.Fatalf("under way are %v", first.Net)
	}
	for _, round := range []int{0, 3, 6, 300, math.MaxInt/3*3 - 3} {
		for place := range 3 {
			at := round + place
			less := slices.Delete(slices.Clone(first.Net), place, place+1)
			w := wantMore(t, "dropped", threePackets(), []impl.Event{evDrop(at)}, 0)
			if !slices.Equal(w.Net, less) {
				t.Errorf("dropped at %d: %v", at, w.Net)
			}
			w.Net = first.Net
			wantWorld(t, "nothing else is dropped", w, first)
			w = wantMore(t, "copied", threePackets(), []impl.Event{evCopy(at)}, 0)
			if !slices.Equal(w.Net, append(slices.Clone(first.Net), first.Net[place])) {
				t.Errorf("copied at %d: %v", at, w.Net)
			}
			w.Net = first.Net
			wantWorld(t, "nothing else is copied", w, first)
			w = wantMore(t, "delivered", threePackets(), []impl.Event{evDeliver(at)}, 0)
			if place == 1 {
				wantReply(t, "the answer", w.Head, 1, impl.SayYes, true)
				less = []impl.Packet{order, order}
			} else {
				less = append(less, answer)
			}
			if !slices.Equal(w.Net, less) {
				t.Errorf("delivered at %d: %v", at, w.Net)
			}
		}
	}
}

// A Packet that comes to one that is down is gone.
func TestPacketsToThoseThatAreDown(t *testing.T) {
	asked := oneQuestion()[:2]
	w := wantMore(t, "the shard is down", asked, []impl.Event{evDown(1), evDeliver(0), evDeliver(0)}, 0, 1, 1)
	if len(w.Net) != 0 || w.Shards[0].Last.Num != 0 || len(w.Disks[1].Files) != 0 {
		t.Errorf("the world is %s", tell(w))
	}
	wantMore(t, "another shard is down", asked, []impl.Event{evDown(2), evDeliver(0), evDeliver(0)}, 0, 0, 0)
	wantMore(t, "the head is down when the shard obeys", asked, []impl.Event{evDown(0), evDeliver(0), evUp(0), evDeliver(0)}, 0, 0, 0, 0)
	w = wantMore(t, "the head is down when the answer comes", asked, []impl.Event{evDeliver(0), evDown(0), evDeliver(0), evUp(0), evTick(0), evDeliver(0), evDeliver(0)}, 0, 0, 1, 0, 0, 0, 0)
	if len(w.Done) != 2 || w.Calls[0].Told != 8 {
		t.Errorf("the calls are %v, behind Done stands %v", w.Calls, w.Done)
	}
}

// What is told again is not written again, but answered again; an answer that nobody waits for is nothing.
func TestPacketsThatComeTwice(t *testing.T) {
	twice := []impl.Event{evAsk(1, impl.AskAdd, 0, 2), evTick(0), evCopy(0), evDeliver(0)}
	w := wantRun(t, "twice", 4, 2, twice, 0, 0, 0, 0)
	again := wantMore(t, "twice", twice, []impl.Event{evDeliver(0)}, 0)
	if !sameShard(w.Shards[0], again.Shards[0]) || !sameDisk(w.Disks[1], again.Disks[1]) || len(again.Net) != 2 || again.Net[0] != again.Net[1] {
		t.Errorf("told twice, the world is %s", tell(again))
	}
	heard := wantMore(t, "heard", twice, []impl.Event{evDeliver(0), evDeliver(0)}, 0, 0)
	deaf := wantMore(t, "heard twice", twice, []impl.Event{evDeliver(0), evDeliver(0), evDeliver(0)}, 0, 0, 1)
	if deaf.Net = heard.Net; !sameWorld(deaf, heard) || len(heard.Done) != 2 {
		t.Errorf("heard twice, the world is %s", tell(deaf))
	}
}

// The copy of an order is kept back until the next order is done: it is out of turn then, and so is the copy of an answer.
func TestPacketsThatComeLate(t *testing.T) {
	second := []impl.Event{evAsk(2, impl.AskTake, 0, 2), evTick(0)}
	kept := []impl.Event{evAsk(1, impl.AskAdd, 0, 2), evTick(0), evCopy(0), evDeliver(1), evDeliver(1)}
	w := wantMore(t, "an order comes late", eventList(kept, second), []impl.Event{evDeliver(1), evDeliver(0), evDeliver(0)}, 0, 1, 0)
	if len(w.Net) != 0 || len(w.Shards[0].Web.Edges) != 0 || w.Shards[0].Last.Num != 2 {
		t.Errorf("the world is %s", tell(w))
	}
	wantMore(t, "an order comes again ahead of the next one", eventList(kept, second), []impl.Event{evDeliver(0), evDeliver(0), evDeliver(0), evDeliver(0)}, 0, 0, 1, 0)
	answers := []impl.Event{evAsk(1, impl.AskAdd, 0, 2), evTick(0), evDeliver(0), evCopy(0), evDeliver(1)}
	w = wantMore(t, "an answer comes late", eventList(answers, second), []impl.Event{evDeliver(0), evDeliver(0), evDeliver(0)}, 1, 0, 0)
	if w.Calls[1].Told != 9 || w.Calls[1].Say != impl.SayYes || len(w.Done) != 4 {
		t.Errorf("the calls are %v", w.Calls)
	}
	wantMore(t, "another shard's answer", []impl.Event{evAsk(1, impl.AskAdd, 0, 2), evTick(0), evDeliver(0), evCopy(0), evDeliver(0), evAsk(2, impl.AskAdd, 1, 3)}, []impl.Event{evDeliver(0)}, 1)
}

// Orders that are told one behind the other, of which the first comes last.
func TestPacketsOutOfOrder(t *testing.T) {
	ahead := []impl.Event{evAsk(1, impl.AskAdd, 0, 2), evTick(0), evCopy(0), evCopy(0), evDeliver(0), evDeliver(2), evAsk(2, impl.AskMove, 2, 2), evTick(0)}
	w := wantMore(t, "out of order", ahead, []impl.Event{evDeliver(2), evDeliver(1), evDeliver(1), evDeliver(0)}, 0, 1, 0, 1)
	wantCalls(t, "out of order", w, impl.Call{Ask: ahead[0].Ask, When: 0, Told: 5, Say: impl.SayYes}, impl.Call{Ask: ahead[6].Ask, When: 6, Told: 10, Say: impl.SayYes})
	if !slices.Equal(w.Head.Cuts, []impl.Edge{edge(0, 2)}) || len(w.Net) != 0 {
		t.Errorf("the world is %s", tell(w))
	}
}

// aMove goes on from an edge between the shards 1 and 2 with one of its ends moved, so that the shard 2 accepts it.
func aMove() []impl.Event {
	return []impl.Event{evAsk(1, impl.AskAdd, 0, 1), evAsk(2, impl.AskMove, 0, 2), evTick(0), evDeliver(0), evDeliver(0), evTick(0), evDeliver(0), evDeliver(0)}
}

func TestLifeOfAMoveByHand(t *testing.T) {
	w := wantRun(t, "moved", 4, 2, aMove(), make([]int, 8)...)
	done := []impl.Rec{takeRec(1, impl.AskAdd, 0, 1), takeRec(2, impl.AskMove, 0, 2), hearRec(1, answerOf(1, true, nil, 0, 1, 2, 3)), hearRec(2, answerOf(1, true, nil, 0, 0, 2, 3))}
	if !sameRecs(w.Done, done) || !sameDisk(w.Disks[0], logOf(done...)) {
		t.Errorf("behind Done stands %v", w.Done)
	}
	if !sameDisk(w.Disks[1], logOf(obeyRec(orderOf(1, impl.OrderRelease, 0)))) || !sameDisk(w.Disks[2], logOf(obeyRec(orderOf(1, impl.OrderAccept, 0, edge(0, 1))))) {
		t.Errorf("the disks are %s", tell(w.Disks))
	}
	wantCalls(t, "moved", w, impl.Call{Ask: askOf(1, impl.AskAdd, 0, 1), Told: 0, Say: impl.SayYes}, impl.Call{Ask: askOf(2, impl.AskMove, 0, 2), When: 1, Told: 7, Say: impl.SayYes})
	if !slices.Equal(impl.Owned(w.Shards[1]), []impl.Edge{edge(0, 1)}) || len(w.Head.Cuts) != 0 {
		t.Errorf("the world is %s", tell(w))
	}
}

// At each step of a move each node falls and comes up again: all is what it was but for what was under way.
func TestDownAndUpAtEachStep(t *testing.T) {
	for _, life := range [][]impl.Event{oneQuestion(), aMove(), threePackets()} {
		for count := range len(life) + 1 {
			was := wantMore(t, "a step", nil, life[:count], make([]int, count)...)
			for node := range 3 {
				down := wantMore(t, "down", life[:count], []impl.Event{evDown(node), evDown(node)}, 0, 1)
				fallen := changedWorld(was, func(w *impl.World) { w.Up[node] = false })
				wantWorld(t, "down", down, fallen)
				up := wantMore(t, "up", life[:count], []impl.Event{evUp(node), evDown(node), evUp(node), evUp(node)}, 1, 0, 0, 1)
				wantWorld(t, "up again", up, was)
				on, numbers, _ := impl.RunCluster(4, 2, eventList(life[:count], []impl.Event{evDown(node), evUp(node)}, life[count:]))
				straight, _, _ := impl.RunCluster(4, 2, life)
				if on.Calls, straight.Calls = nil, nil; slices.Max(numbers) > 0 || !sameWorld(on, straight) {
					t.Fatalf("node %d fell ahead of %d, and the world is %s; want %s", node, count, tell(on), tell(straight))
				}
			}
		}
	}
}

// writer is a life whose last event writes, to the disk of this node.
type writer struct {
	name string
	node int
	life []impl.Event
}

func writers() []writer {
	taken := eventList(oneQuestion(), []impl.Event{evAsk(2, impl.AskTake, 0, 2), evTick(0), evDeliver(0)})
	released := eventList(oneQuestion(), []impl.Event{evAsk(2, impl.AskMove, 0, 2), evTick(0), evDeliver(0)})
	waits := []impl.Event{evDown(0), evAsk(7, impl.AskAdd, 0, 2), evAsk(8, impl.AskTogether, 0, 1), evUp(0), evTick(0)}
	return []writer{
		{"a first question that is said", 0, []impl.Event{evAsk(7, impl.AskAdd, 0, 1)}},
		{"a question that is said", 0, eventList(oneQuestion(), []impl.Event{evAsk(7, impl.AskTogether, 0, 1)})},
		{"a question without sense", 0, eventList(oneQuestion(), []impl.Event{evAsk(100000, 100000, 100000, 100000)})},
		{"a question that is the Task", 0, eventList(oneQuestion(), []impl.Event{evAsk(300, impl.AskMove, 2, 2)})},
		{"a question of a tick", 0, waits},
		{"a question of a tick, with more of them", 0, eventList(waits[:3], []impl.Event{evAsk(9, 0, 0, 0), evUp(0), evTick(0)})},
		{"an answer", 0, oneQuestion()},
		{"an answer to a release", 0, aMove()[:5]},
		{"an answer to a release with edges", 0, eventList(released, []impl.Event{evDeliver(0)})},
		{"an answer to an accept", 0, aMove()},
		{"an order to add", 1, oneQuestion()[:3]},
		{"an order to take", 1, taken},
		{"an order to release", 1, released},
		{"an order to accept", 2, aMove()[:7]},
		{"an order while the head is down", 1, eventList(oneQuestion()[:2], []impl.Event{evDown(0), evDeliver(0)})},
		{"an order among other Packets", 1, eventList(oneQuestion()[:2], []impl.Event{evTick(0), evCopy(0), evDeliver(1)})},
	}
}

// worlds is what a cut event may lead to: without is the world ahead of the event, with the call and without the Packet that came;
// with is the one behind it, were it not cut.
func (c writer) worlds(t *testing.T) (without, with impl.World) {
	t.Helper()
	last := len(c.life) - 1
	before, _ := wantLived(t, c.name, 4, 2, c.life[:last])
	with, numbers := wantLived(t, c.name, 4, 2, c.life)
	without = changedWorld(before, func(w *impl.World) {
		if e := c.life[last]; e.Kind == impl.EvDeliver {
			w.Net = slices.Delete(w.Net, e.At, e.At+1)
		} else if e.Kind == impl.EvAsk {
			w.Calls = append(w.Calls, impl.Call{Ask: e.Ask, When: last, Told: -1})
		}
	})
	if numbers[last] != 0 || sameDisk(without.Disks[c.node], with.Disks[c.node]) {
		t.Fatalf("%s: nothing is written, with the number %d", c.name, numbers[last])
	}
	return without, with
}

// wantCut has the node fall as it was; what is behind Done hangs on whether the record is whole.
func (c writer) wantCut(t *testing.T, without, with impl.World, size int, left []int) {
	t.Helper()
	last, text := len(c.life)-1, with.Disks[c.node].Files[0].Text
	kept := 0
	for _, f := range without.Disks[c.node].Files {
		kept = f.Kept
	}
	whole, file := size >= len(text), text[:max(kept, min(size, len(text)))]
	cut := eventList(c.life[:last], []impl.Event{evCut(c.life[last], left...)})
	got, numbers := wantLived(t, c.name, 4, 2, cut)
	want := changedWorld(without, func(w *impl.World) {
		w.Up[c.node], w.Disks[c.node] = false, keptDisk("log", file)
		if whole {
			w.Done = with.Done
		}
	})
	if numbers[last] != 3 {
		t.Fatalf("%s: cut, with %v left, the number is %d", c.name, left, numbers[last])
	}
	wantWorld(t, c.name+", cut", got, want)
	up := wantMore(t, c.name, cut, []impl.Event{evUp(c.node)}, 0)
	back := changedWorld(want, func(w *impl.World) {
		w.Up[c.node], w.Disks[c.node] = true, without.Disks[c.node]
		if len(without.Disks[c.node].Files) == 0 {
			w.Disks[c.node] = keptDisk("log", "")
		}
		if whole {
			w.Disks[c.node], w.Shards = with.Disks[c.node], with.Shards
		}
		if whole && c.node == 0 {
			w.Head = with.Head
		}
		for at, call := range w.Calls {
			if say, said := replyByWords(w.Head, call.Ask.Id); w.Up[0] && said && call.Told == -1 {
				w.Calls[at].Told, w.Calls[at].Say = last+1, say
			}
		}
	})
	wantWorld(t, c.name+", cut and up again", up, back)
}

// Each event that writes is cut with each length left of the log.
func TestCutOfEachEventThatWrites(t *testing.T) {
	for _, c := range writers() {
		without, with := c.worlds(t)
		size := len(with.Disks[c.node].Files[0].Text)
		for cut := -1; cut <= size+1; cut++ {
			c.wantCut(t, without, with, cut, []int{cut})
		}
		c.wantCut(t, without, with, 0, nil)
		c.wantCut(t, without, with, 0, []int{math.MinInt, size})
		c.wantCut(t, without, with, size, []int{math.MaxInt})
		c.wantCut(t, without, with, size-1, slices.Repeat([]int{size - 1}, impl.MaxFiles))
		c.wantCut(t, without, with, size, append([]int{size}, make([]int, impl.MaxFiles-1)...))
	}
}

// Behind a cut the same is asked, told or answered once more: it is done once, whether the record was whole or torn.
func TestLivesGoOnBehindACut(t *testing.T) {
	for _, c := range writers() {
		_, with := c.worlds(t)
		last, size := len(c.life)-1, len(with.Disks[c.node].Files[0].Text)
		want := impl.Rest(with, 30)
		for cut := range size + 1 {
			w, _ := wantLived(t, c.name, 4, 2, eventList(c.life[:last], []impl.Event{evCut(c.life[last], cut)}))
			rest := impl.Rest(w, 30)
			if !slices.Equal(rest.Head.Said, want.Head.Said) || !slices.EqualFunc(rest.Shards, want.Shards, sameShard) || !sameRecs(rest.Done, want.Done) {
				t.Fatalf("%s: cut at %d, at rest the world is %s; want %s", c.name, cut, tell(rest), tell(want))
			}
		}
	}
}

// quiet are lives whose last event writes nothing.
func quiet() map[string][]impl.Event {
	torn := func(node int, life []impl.Event, left int) []impl.Event {
		last := len(life) - 1
		return eventList(life[:last], []impl.Event{evCut(life[last], left), evUp(node)})
	}
	return map[string][]impl.Event{
		"a question while the head is down":   {evDown(0), evAsk(1, impl.AskAdd, 0, 1)},
		"a question while the head is busy":   {evAsk(1, impl.AskAdd, 0, 2), evAsk(2, impl.AskAdd, 0, 1)},
		"a question that is said already":     {evAsk(1, impl.AskAdd, 0, 1), evAsk(1, impl.AskAdd, 0, 1)},
		"a tick of a head that is busy":       {evAsk(1, impl.AskAdd, 0, 2), evTick(0)},
		"a tick of a head without calls":      {evTick(0)},
		"a tick of a head whose call is said": {evAsk(1, impl.AskAdd, 0, 1), evTick(0)},
		"a tick of a head that is down":       {evAsk(1, impl.AskAdd, 0, 2), evDown(0), evTick(0)},
		"a tick of a shard":                   {evTick(2)},
		"a tick of a shard that is down":      {evDown(2), evTick(2)},
		"no Packet that is delivered":         {evDeliver(0)},
		"no Packet that is dropped":           {evDrop(0)},
		"no Packet that is copied":            {evCopy(0)},
		"a Packet that is dropped":            eventList(threePackets(), []impl.Event{evDrop(1)}),
		"a Packet that is copied":             eventList(threePackets(), []impl.Event{evCopy(1)}),
		"an order to a shard that is down":    eventList(threePackets(), []impl.Event{evDown(1), evDeliver(0)}),
		"an answer to a head that is down":    eventList(threePackets(), []impl.Event{evDown(0), evDeliver(1)}),
		"an order that is told again":         eventList(threePackets(), []impl.Event{evDeliver(0)}),
		"an answer that is told again":        eventList(oneQuestion()[:3], []impl.Event{evCopy(0), evDeliver(0), evDeliver(0)}),
		"an order that comes late":            eventList(threePackets(), []impl.Event{evDeliver(1), evAsk(2, impl.AskTake, 0, 2), evTick(0), evDeliver(2), evDeliver(0)}),
		"a fall":                              eventList(oneQuestion(), []impl.Event{evDown(0)}),
		"a fall of one that is down":          eventList(oneQuestion(), []impl.Event{evDown(1), evDown(1)}),
		"one that comes up":                   eventList(oneQuestion(), []impl.Event{evDown(1), evUp(1)}),
		"one that is up":                      eventList(oneQuestion(), []impl.Event{evUp(0)}),
		"a head that mends its log":           torn(0, oneQuestion(), 17),
		"a head that has a record more":       torn(0, oneQuestion(), 1000),
		"a head that mends all of its log":    torn(0, oneQuestion()[:1], 3),
		"a shard that mends its log":          torn(1, oneQuestion()[:3], 3),
		"a shard that has a record more":      torn(1, oneQuestion()[:3], 1000),
	}
}

func TestCutOfEventsThatWriteNothing(t *testing.T) {
	for why, life := range quiet() {
		want, numbers := wantLived(t, why, 4, 2, life)
		last := len(life) - 1
		for _, left := range [][]int{nil, {0}, {5, 5, 5}, {math.MaxInt}, make([]int, impl.MaxFiles)} {
			got := wantRun(t, why+", cut", 4, 2, eventList(life[:last], []impl.Event{evCut(life[last], left...)}), numbers...)
			wantWorld(t, why+", cut", got, want)
		}
		if numbers[last] > 1 {
			t.Errorf("%s: the number is %d", why, numbers[last])
		}
	}
}

// What the power leaves is not asked for without a Cut.
func TestLeftWithoutCut(t *testing.T) {
	for _, c := range writers() {
		_, with := c.worlds(t)
		for _, left := range [][]int{{0}, {7}, make([]int, impl.MaxFiles)} {
			life := slices.Clone(c.life)
			for at := range life {
				life[at].Left = left
			}
			got, _ := wantLived(t, c.name, 4, 2, life)
			wantWorld(t, c.name, got, with)
		}
	}
}

// A log that is torn is mended when its node comes up, so that the next record is read.
func TestRecordsBehindATornOne(t *testing.T) {
	torn := []impl.Event{evAsk(1, impl.AskAdd, 0, 1), evCut(evAsk(2, impl.AskTogether, 0, 1), 14), evUp(0)}
	w := wantRun(t, "torn", 4, 2, torn, 0, 3, 0)
	wantCalls(t, "torn", w, impl.Call{Ask: torn[0].Ask, Told: 0, Say: impl.SayYes}, impl.Call{Ask: torn[1].Ask, When: 1, Told: -1})
	if !sameDisk(w.Disks[0], logOf(w.Done...)) || len(w.Done) != 1 {
		t.Fatalf("the disk is %s", tell(w.Disks[0]))
	}
	w = wantRun(t, "torn, and on", 4, 2, eventList(torn, []impl.Event{evTick(0), evDown(0), evUp(0)}), 0, 3, 0, 0, 0, 0)
	wantCalls(t, "torn, and on", w, impl.Call{Ask: torn[0].Ask, Told: 0, Say: impl.SayYes}, impl.Call{Ask: torn[1].Ask, When: 1, Told: 3, Say: impl.SayYes})
	if !sameDisk(w.Disks[0], logOf(w.Done...)) || len(w.Done) != 2 {
		t.Fatalf("the disk is %s", tell(w.Disks[0]))
	}
}

// A call whose record is whole on the disk of a head that fell is told when the head comes up again, not ahead of that.
func TestCallsThatAreToldWhenTheHeadComesUp(t *testing.T) {
	ask, life := askOf(1, impl.AskAdd, 0, 1), []impl.Event{evCut(evAsk(1, impl.AskAdd, 0, 1), 1000), evTick(1), evDown(2)}
	w := wantRun(t, "down", 4, 2, life, 3, 0, 0)
	wantCalls(t, "down", w, impl.Call{Ask: ask, Told: -1})
	if len(w.Done) != 1 || len(w.Head.Said) != 0 {
		t.Errorf("behind Done stands %v, the head has Said %v", w.Done, w.Head.Said)
	}
	w = wantRun(t, "up", 4, 2, eventList(life, []impl.Event{evUp(2), evUp(0), evTick(0)}), 3, 0, 0, 0, 0, 0)
	wantCalls(t, "up", w, impl.Call{Ask: ask, Told: 4, Say: impl.SayYes})
	heard := eventList(oneQuestion()[:3], []impl.Event{evCut(evDeliver(0), 1000), evTick(2)})
	w = wantRun(t, "heard, and down", 4, 2, heard, 0, 0, 0, 3, 0)
	wantCalls(t, "heard, and down", w, impl.Call{Ask: heard[0].Ask, Told: -1})
	w = wantRun(t, "heard, and up", 4, 2, eventList(heard, []impl.Event{evUp(0)}), 0, 0, 0, 3, 0, 0)
	wantCalls(t, "heard, and up", w, impl.Call{Ask: heard[0].Ask, Told: 5, Say: impl.SayYes})
	w = wantRun(t, "the shard is cut", 4, 2, []impl.Event{oneQuestion()[0], evTick(0), evCut(evDeliver(0), 1000), evUp(1), evTick(0), evDeliver(0), evDeliver(0)}, 0, 0, 3, 0, 0, 0, 0)
	wantCalls(t, "the shard is cut", w, impl.Call{Ask: heard[0].Ask, Told: 6, Say: impl.SayYes})
	if len(w.Done) != 2 || !sameDisk(w.Disks[1], logOf(obeyRec(orderOf(1, impl.OrderAdd, 0, edge(0, 2))))) {
		t.Errorf("the world is %s", tell(w))
	}
}

// left is mostly a length that tears the log of a node, or just does not.
func (n *drawnNumber) left(w impl.World, node int) []int {
	size := 0
	for _, f := range w.Disks[node].Files {
		size = len(f.Text)
	}
	switch n.below(5) {
	case 0:
		return nil
	case 1:
		return []int{size + 500}
	case 2:
		return slices.Repeat([]int{n.below(size + 20)}, 1+n.below(impl.MaxFiles))
	}
	return []int{size + n.below(30)}
}

// happening goes on from a world: who is down comes up soon, what is under way comes soon, and some of it is cut.
func (n *drawnNumber) happening(w impl.World, id int) impl.Event {
	node, nodes := n.below(len(w.Up)), len(w.Up)
	if n.below(2) == 0 {
		node = 0
	}
	e := impl.Event{Node: node, At: n.below(9)}
	switch kind := n.below(24); {
	case kind < 5:
		e = impl.Event{Kind: 1, Node: n.below(nodes), Ask: n.livelyOf(id, &diary{head: w.Head, shards: w.Shards})}
	case kind < 6 && len(w.Calls) > 0:
		e = impl.Event{Kind: 1, Ask: w.Calls[n.below(len(w.Calls))].Ask}
	case kind < 14:
		e.Kind = 2
	case kind < 15:
		e.Kind = 3
	case kind < 16:
		e.Kind = 4
	case kind < 20:
		e.Kind = 5
	case kind < 21:
		e.Kind = 6
	default:
		e.Kind = 7
		if at := slices.Index(w.Up, false); at >= 0 {
			e.Node = at
		}
	}
	if n.below(5) == 0 {
		e.Cut, e.Left = true, n.left(w, e.Node)
		if e.Kind == 2 && len(w.Net) > 0 {
			e.Left = n.left(w, w.Net[e.At%len(w.Net)].To)
		}
	}
	return e
}

// livedEvents are as many events as may be, with the worlds that they lead to by the words, and their numbers.
func (n *drawnNumber) livedEvents(verts, shards, count int) ([]impl.Event, []impl.World, []int) {
	events, worlds, numbers := []impl.Event{}, []impl.World{newWorldByHand(verts, shards)}, []int{}
	for at := range count {
		e := n.happening(worlds[at], 1+at+n.below(3))
		w, number := eventByWords(worlds[at], e, at)
		events, worlds, numbers = append(events, e), append(worlds, w), append(numbers, number)
	}
	return events, worlds, numbers
}

func TestDrawnLivesAsTheWordsHaveThem(t *testing.T) {
	drawn, told := drawnNumber(141), [8][4]int{}
	for at := range 180 {
		n, shards := 1+at%12, 1+at/12%3
		events, worlds, numbers := drawn.livedEvents(n, shards, impl.MaxLife)
		step := 69
		if at%15 == 0 {
			step = 1 // each beginning is a life, too
		}
		for count := 1; count <= impl.MaxLife; count += step {
			w := wantRun(t, "drawn", n, shards, events[:count], numbers[:count]...)
			wantWorld(t, "drawn", w, worlds[count])
		}
		for at, e := range events {
			told[e.Kind][numbers[at]]++
		}
	}
	for kind, want := range map[int][]int{1: {1, 0, 0, 1}, 2: {1, 1, 0, 1}, 3: {1, 1}, 4: {1, 1}, 5: {1, 1, 0, 1}, 6: {1, 1}, 7: {1, 1}} {
		for number, much := range want {
			if told[kind][number] < 30*much {
				t.Errorf("of the Kind %d the numbers came so often: %v", kind, told[kind])
			}
		}
	}
}

// fallen is what is known of a node that is down: what it was, and what it is with the record that it wrote when it fell.
type fallen struct {
	heads  []impl.Head
	shards []impl.Shard
}

func (f fallen) has(w impl.World, node int) bool {
	if node == 0 {
		return slices.ContainsFunc(f.heads, func(h impl.Head) bool { return sameHead(h, w.Head) })
	}
	return slices.ContainsFunc(f.shards, func(s impl.Shard) bool { return sameShard(s, w.Shards[node-1]) })
}

func nodeOf(w impl.World, node int) fallen {
	if node == 0 {
		return fallen{heads: []impl.Head{w.Head}}
	}
	return fallen{shards: []impl.Shard{w.Shards[node-1]}}
}

// wantFallen asks that the event changed a node that is down in nothing; a node that fell now may come up as what an
// event without a Cut makes of it.
func wantFallen(t *testing.T, known map[int]fallen, was, w impl.World, e impl.Event, place int) {
	t.Helper()
	for node := range w.Up {
		switch {
		case was.Up[node] && !w.Up[node]:
			f := nodeOf(was, node)
			if e.Kind != impl.EvDown {
				uncut := e
				uncut.Cut = false
				with, _ := eventByWords(was, uncut, place)
				more := nodeOf(with, node)
				f.heads, f.shards = append(f.heads, more.heads...), append(f.shards, more.shards...)
			}
			known[node] = f
			fallthrough
		case !w.Up[node]:
			if was := nodeOf(was, node); !was.has(w, node) {
				t.Fatalf("the node %d, which is down, is changed: %s", node, tell(w))
			}
		case !was.Up[node]:
			if !known[node].has(w, node) {
				t.Fatalf("the node %d came up, and the world is %s; it was %v", node, tell(w), known[node])
			}
		}
	}
}

// wantSound asks of the world behind each event what a life promises: calls that are told stay told, what was decided is
// what the head has Said when it is up, and each node that is up is what its disk tells.
func wantSound(t *testing.T, was, w impl.World, place int) {
	t.Helper()
	for at, c := range was.Calls {
		now := w.Calls[at]
		told := now == impl.Call{Ask: c.Ask, When: c.When, Told: place, Say: now.Say} && now.Say >= 1 && now.Say <= 3
		if now != c && !(c.Told == -1 && w.Up[0] && told) {
			t.Fatalf("the call %v is %v behind the event %d", c, now, place)
		}
	}
	if len(w.Done) > len(was.Done)+1 || !sameRecs(w.Done[:len(was.Done)], was.Done) {
		t.Fatalf("behind Done stood %v, and now %v", was.Done, w.Done)
	}
	decided, ok := impl.HeadFrom(w.N, len(w.Shards), w.Done)
	if !ok || w.Up[0] && !sameHead(decided, w.Head) || !w.Up[0] && !slices.Equal(w.Head.Said, decided.Said[:len(w.Head.Said)]) {
		t.Fatalf("what is decided is %v, %v; the head is %v", decided, ok, w.Head)
	}
	for _, c := range w.Calls {
		if say, said := impl.ReplyOf(w.Head, c.Ask.Id); w.Up[0] && (said != (c.Told >= c.When) || say != c.Say) {
			t.Fatalf("the call %v is said: %v, with %d", c, said, say)
		}
	}
	for at, s := range w.Shards {
		if shard, ok := impl.ShardFrom(s.Id, w.N, diskRecs(w.Disks[at+1], w.N)); w.Up[at+1] && (!ok || !sameShard(shard, s)) {
			t.Fatalf("the disk of the shard tells %v, %v; it is %v", shard, ok, s)
		}
		if !impl.ShardOk(s) {
			t.Fatalf("the shard %v is not right", s)
		}
	}
	if !impl.HeadOk(w.Head) || !sameRecs(diskRecs(w.Disks[0], w.N), w.Done) {
		t.Fatalf("the head is %v; its disk tells %v, behind Done stands %v", w.Head, diskRecs(w.Disks[0], w.N), w.Done)
	}
}

// In a drawn life what comes up again is what it was.
func TestDrawnLivesComeUpAgain(t *testing.T) {
	drawn, ups := drawnNumber(142), 0
	for at := range 108 {
		n, shards := 1+at%12, 1+at/12%3
		events, _, _ := drawn.livedEvents(n, shards, impl.MaxLife)
		was, known := newWorldByHand(n, shards), map[int]fallen{}
		for count, e := range events {
			w, numbers, ok := impl.RunCluster(n, shards, events[:count+1])
			if !ok || len(numbers) != count+1 {
				t.Fatalf("the life is told %v, %v", numbers, ok)
			}
			wantFallen(t, known, was, w, e, count)
			wantSound(t, was, w, count)
			if e.Kind == impl.EvUp && numbers[count] == 0 {
				ups++
			}
			was = w
		}
	}
	if ups < 200 {
		t.Errorf("only %d nodes came up again", ups)
	}
}

// What a Kind does not tell of an event is not looked at.
func TestWhatAnEventDoesNotTellIsPassedOver(t *testing.T) {
	drawn := drawnNumber(143)
	for at := range 60 {
		n, shards := 1+at%12, 1+at/12%3
		events, worlds, numbers := drawn.livedEvents(n, shards, 50)
		for at := range events {
			e := &events[at]
			if e.Kind <= 4 {
				e.Node = drawn.below(shards + 1)
			}
			if e.Kind == 1 || e.Kind > 4 {
				e.At = drawn.below(1000)
			}
			if e.Kind != 1 {
				e.Ask = askOf(drawn.below(99)-5, drawn.below(9)-2, drawn.below(9)-2, math.MaxInt)
			}
			if e.Kind == 3 || e.Kind == 4 || e.Kind > 5 {
				e.Cut, e.Left = drawn.below(2) == 0, []int{drawn.below(99) - 5}
			}
		}
		wantWorld(t, "with more", wantRun(t, "with more", n, shards, events, numbers...), worlds[50])
	}
}

// The longest life of one log: each record of the head is as long as may be, and there is room for all.
func TestLogsHaveRoomForAWholeLife(t *testing.T) {
	events := []impl.Event{}
	for at := range impl.MaxLife / 7 {
		v := at % 11
		events = append(events, evAsk(99990+at, impl.AskMove, v, 1+(v+1)%2), evTick(0), evDeliver(0), evDeliver(0), evTick(0), evDeliver(0), evDeliver(0))
	}
	w, _ := wantLived(t, "moves", 12, 2, events)
	if recs := diskRecs(w.Disks[0], 12); len(recs) < 20 || !sameRecs(recs, w.Done) || !impl.AllKept(w.Disks[0]) {
		t.Errorf("the log has %d records", len(recs))
	}
}

func wantRested(t *testing.T, why string, w impl.World, rounds int) impl.World {
	t.Helper()
	got := impl.Rest(w, rounds)
	wantWorld(t, why, got, restByWords(w, rounds))
	return got
}

// wantAtRest asks that all is answered: each call is told, nothing is under way, nobody is Busy or down.
func wantAtRest(t *testing.T, why string, w impl.World) {
	t.Helper()
	open := slices.ContainsFunc(w.Calls, func(c impl.Call) bool {
		say, said := replyByWords(w.Head, c.Ask.Id)
		return c.Told < 0 || !said || say != c.Say
	})
	if open || len(w.Net) != 0 || impl.Busy(w.Head) || slices.Contains(w.Up, false) || len(w.Head.Said) != len(w.Calls) {
		t.Fatalf("%s: the world is not at rest: %s", why, tell(w))
	}
}

// unrest has nodes that are down, Packets under way, and calls that are not told.
func unrest(t *testing.T) impl.World {
	t.Helper()
	life := eventList(threePackets(), []impl.Event{evAsk(2, impl.AskMove, 0, 2), evAsk(3, impl.AskTogether, 1, 3), evDown(0), evAsk(4, impl.AskAdd, 1, 0), evAsk(5, impl.AskTogether, 1, 2), evDown(2)})
	w, _ := wantLived(t, "unrest", 4, 2, life)
	if len(w.Net) != 3 || slices.Contains(w.Up[:1], true) || w.Up[2] || len(w.Calls) != 5 || !impl.Busy(w.Head) {
		t.Fatalf("the world of unrest is %s", tell(w))
	}
	return w
}

func TestRestByHand(t *testing.T) {
	w := unrest(t)
	for _, rounds := range []int{0, -1, -400, math.MinInt} {
		wantWorld(t, "no rounds", impl.Rest(w, rounds), w)
	}
	one := wantRested(t, "one round", w, 1)
	if slices.Contains(one.Up, false) || len(one.Net) != 0 || impl.Busy(one.Head) || len(one.Head.Said) != 1 {
		t.Fatalf("behind one round the world is %s", tell(one))
	}
	wantCalls(t, "one round", one, append([]impl.Call{{Ask: w.Calls[0].Ask, When: 0, Told: 70, Say: impl.SayYes}}, w.Calls[1:]...)...)
	step := one
	for rounds := 2; rounds <= 12; rounds++ {
		step = impl.Rest(step, 1)
		wantWorld(t, "a round more", wantRested(t, "rounds", w, rounds), step)
	}
	wantAtRest(t, "behind twelve rounds", step)
	says := []int{impl.SayYes, impl.SayYes, impl.SayNo, impl.SayYes, impl.SayYes}
	for at, c := range step.Calls {
		if c.Told != impl.MaxLife || c.Say != says[at] {
			t.Errorf("at rest the call is %v", c)
		}
	}
	for _, rounds := range []int{13, 399, 400, 401, 100000, math.MaxInt} {
		wantWorld(t, "at rest nothing changes", impl.Rest(w, rounds), step)
	}
}

func TestRestOfNewWorlds(t *testing.T) {
	for n := 1; n <= impl.MaxVerts; n++ {
		for shards := 1; shards <= impl.MaxShards; shards++ {
			w, _ := impl.WorldNew(n, shards)
			for _, rounds := range []int{-1, 0, 1, 400, 401} {
				wantWorld(t, "a new world", impl.Rest(w, rounds), newWorldByHand(n, shards))
			}
		}
	}
}

// At rest all is answered, whatever the life was; and what is answered is what one graph would say.
func TestDrawnLivesComeToRest(t *testing.T) {
	drawn, open := drawnNumber(144), 0
	for at := range 180 {
		n, shards := 1+at%12, 1+at/12%3
		events, worlds, _ := drawn.livedEvents(n, shards, impl.MaxLife)
		w, _, _ := impl.RunCluster(n, shards, events)
		rested := wantRested(t, "drawn", w, 1+drawn.below(9))
		rested = impl.Rest(rested, 400)
		wantAtRest(t, "drawn", rested)
		wantWorld(t, "from the life on", impl.Rest(w, 400), rested)
		wantWorld(t, "at rest", impl.Rest(rested, 2), rested)
		l := newLife(n, shards)
		for _, s := range rested.Head.Said {
			if want := l.sayOf(s.Ask); s.Say != want {
				t.Fatalf("to %v is said %d; one graph says %d", s.Ask, s.Say, want)
			}
		}
		l.head, l.shards = rested.Head, rested.Shards
		l.wantAtRest(t)
		for _, c := range worlds[impl.MaxLife].Calls {
			if c.Told == -1 {
				open++
			}
		}
	}
	if open < 200 {
		t.Errorf("only %d calls were open at the end of a life", open)
	}
}

// In a round 100 Packets are delivered, and no more; those that are sent meanwhile come behind the others.
func TestRestDeliversAHundred(t *testing.T) {
	for _, count := range []int{1, 49, 50, 51, 99, 100, 101, 150, 250} {
		w := changedWorld(newWorldByHand(4, 2), func(w *impl.World) { w.Net = slices.Repeat([]impl.Packet{{To: 1, From: 0, Text: "none"}}, count) })
		if got := wantRested(t, "nothing of its kind", w, 1); len(got.Net) != max(0, count-100) {
			t.Errorf("of %d Packets %d are left", count, len(got.Net))
		}
		order := orderTextByWords(orderOf(1, impl.OrderRelease, 0))
		w.Net = slices.Repeat([]impl.Packet{{To: 1, From: 0, Text: order}}, count)
		if got := wantRested(t, "orders, and answers to them", w, 1); len(got.Net) != min(count, max(0, 2*count-100)) {
			t.Errorf("of %d orders and their answers %d are left", count, len(got.Net))
		}
		wantRested(t, "two rounds", w, 2)
	}
}

// There are 400 rounds at most: of more Packets than these deliver some are left.
func TestRestHasAnEnd(t *testing.T) {
	w := changedWorld(newWorldByHand(2, 1), func(w *impl.World) {
		w.Net = slices.Repeat([]impl.Packet{{To: 1, Text: "none"}}, 40007)
	})
	for rounds, left := range map[int]int{399: 107, 400: 7, 401: 7, 1000: 7, math.MaxInt: 7} {
		if got := impl.Rest(w, rounds); len(got.Net) != left {
			t.Errorf("behind %d rounds %d Packets are left; want %d", rounds, len(got.Net), left)
		}
	}
}

// Texts that are none of their kind, and Packets between others than head and shard.
func TestRestOfOddPackets(t *testing.T) {
	order, answer := "\x01\x01\x00\x01\x00\x02", "\x01\x01\x00\x00\x01\x00\x03"
	texts := []string{"", "\x00", "torn", order, answer, order + "\x00", answer[1:], "\x01\x01\x00\x01\x02\x00", "\x00\x01\x00\x01\x00\x02", strings.Repeat("x", 1000)}
	for _, events := range [][]impl.Event{nil, oneQuestion()[:1], oneQuestion()[:2], oneQuestion()} {
		was, _ := wantLived(t, "odd Packets", 4, 2, events)
		for _, text := range texts {
			for to := range 3 {
				for from := range 3 {
					w := changedWorld(was, func(w *impl.World) { w.Net = append([]impl.Packet{{To: to, From: from, Text: text}}, w.Net...) })
					wantRested(t, "odd Packets", w, 1)
					wantRested(t, "odd Packets", w, 3)
				}
			}
		}
	}
	was, _ := wantLived(t, "waiting", 4, 2, oneQuestion()[:1])
	for from := range 3 { // the head hears the shard that it waits for, and no other one
		w := changedWorld(was, func(w *impl.World) {
			w.Net, w.Up[1], w.Disks[1] = []impl.Packet{{To: 0, From: from, Text: answer}}, false, keptDisk("log", "torn", "log", "")
		})
		_, said := impl.ReplyOf(wantRested(t, "an answer", w, 1).Head, 1)
		if said != (from == 1) {
			t.Errorf("an answer from the node %d is heard: %v", from, said)
		}
	}
}

// wrongUnrest are worlds that break one rule each.
func wrongUnrest(t *testing.T) map[string]impl.World {
	list := map[string]impl.World{"nothing": {}}
	put := func(why string, change func(w *impl.World)) { list[why] = changedWorld(unrest(t), change) }
	put("no Shards", func(w *impl.World) { w.Shards = nil })
	put("a Shard less", func(w *impl.World) { w.Shards = w.Shards[:1] })
	put("a Shard more", func(w *impl.World) { w.Shards = append(w.Shards, shardOf(3, webOf(4), impl.Answer{})) })
	put("Shards that changed places", func(w *impl.World) { w.Shards[0], w.Shards[1] = w.Shards[1], w.Shards[0] })
	put("a Shard twice", func(w *impl.World) { w.Shards[1] = w.Shards[0] })
	put("Ids from 2 on", func(w *impl.World) { w.Shards[0].Id, w.Shards[1].Id = 2, 3 })
	put("an Id of 0", func(w *impl.World) { w.Shards[0].Id = 0 })
	put("a Shard of more vertices", func(w *impl.World) { w.Shards[1] = shardOf(2, webOf(5), impl.Answer{}) })
	put("a Shard of fewer vertices", func(w *impl.World) { w.Shards[1] = shardOf(2, webOf(3), impl.Answer{}) })
	put("a Shard that is not right", func(w *impl.World) { w.Shards[1].Last.Ok = true })
	put("a Web that is not right", func(w *impl.World) { w.Shards[0].Web.Edges[0].Level = 9 })
	for _, n := range append(numbersOutOf(1, impl.MaxVerts), 0, 3, 5) {
		put("N of "+tell(n), func(w *impl.World) { w.N = n })
	}
	put("no Head", func(w *impl.World) { w.Head = impl.Head{} })
	put("a Head that is not right", func(w *impl.World) { w.Head.Nums[0] = impl.MaxNum })
	put("a Head whose Task is not right", func(w *impl.World) { w.Head.Task.Order.Num++ })
	put("a Head of more vertices", func(w *impl.World) { w.Head = newHeadByHand(5, 2) })
	put("a Head of fewer vertices", func(w *impl.World) { w.Head = newHeadByHand(3, 2) })
	put("a Head of more shards", func(w *impl.World) { w.Head = newHeadByHand(4, 3) })
	put("a Head of fewer shards", func(w *impl.World) { w.Head = newHeadByHand(4, 1) })
	put("no Up", func(w *impl.World) { w.Up = nil })
	put("an Up less", func(w *impl.World) { w.Up = w.Up[:2] })
	put("an Up more", func(w *impl.World) { w.Up = append(w.Up, true) })
	put("no Disks", func(w *impl.World) { w.Disks = nil })
	put("a Disk less", func(w *impl.World) { w.Disks = w.Disks[:2] })
	put("a Disk more", func(w *impl.World) { w.Disks = append(w.Disks, impl.Disk{}) })
	for _, node := range numbersOutOf(0, 2) {
		put("a Packet to "+tell(node), func(w *impl.World) { w.Net[0].To = node })
		put("a Packet from "+tell(node), func(w *impl.World) { w.Net[0].From = node })
		put("the last Packet to "+tell(node), func(w *impl.World) { w.Net[2].To = node })
		put("the last Packet from "+tell(node), func(w *impl.World) { w.Net[2].From = node })
	}
	for why, h := range wrongHeads() {
		list["the Head: "+why] = changedWorld(newWorldByHand(6, 3), func(w *impl.World) { w.Head, w.Up[1] = h, false })
	}
	for why, s := range wrongShards() {
		list["the Shard: "+why] = changedWorld(newWorldByHand(3, 1), func(w *impl.World) { w.Shards[0], w.Up[0] = s, false })
	}
	four := changedWorld(newWorldByHand(4, 3), func(w *impl.World) {
		w.Shards, w.Up, w.Disks = append(w.Shards, shardOf(4, webOf(4), impl.Answer{})), append(w.Up, false), append(w.Disks, impl.Disk{})
		w.Head.Labels, w.Head.Nums = append(w.Head.Labels, countTo(4)), append(w.Head.Nums, 0)
	})
	list["MaxShards and one more"] = four
	return list
}

func TestRestOfWorldsThatAreNotAsTheyShouldBe(t *testing.T) {
	list := wrongUnrest(t)
	for why, w := range list {
		for _, rounds := range []int{0, 1, 3, 400, math.MinInt, math.MaxInt} {
			wantWorld(t, why, impl.Rest(w, rounds), w)
		}
	}
	if len(list) < 100 {
		t.Errorf("only %d rules are broken", len(list))
	}
	for why, was := range map[string]impl.World{"unrest": unrest(t), "six": changedWorld(newWorldByHand(6, 3), func(w *impl.World) { w.Up[1] = false })} {
		if sameWorld(impl.Rest(was, 1), was) {
			t.Errorf("%s: a world that is as it should be stays as it is", why)
		}
	}
}

// Heads and shards of any state are as they should be; what their disks do not tell is lost when they come up.
func TestRestOfWorldsByHand(t *testing.T) {
	for why, h := range rightHeads() {
		if h.N != 6 || len(h.Labels) != 3 {
			continue
		}
		w := changedWorld(newWorldByHand(6, 3), func(w *impl.World) {
			w.Head, w.Calls = h, []impl.Call{{Ask: askOf(500, impl.AskAdd, 0, 1), Told: -1}, {Ask: askOf(501, impl.AskMove, 3, 2), Told: -1}, {Ask: askOf(10, 1, 1, 1), Told: 3, Say: 2}}
			for at, labels := range h.Labels {
				if num := h.Nums[at]; num > 0 && slices.Equal(labels, countTo(6)) {
					w.Shards[at].Last = answerOf(num, true, nil, labels...)
				}
			}
		})
		wantRested(t, why, w, 1)
		wantRested(t, why, w, 5)
		w.Up[0], w.Up[3] = false, false
		wantRested(t, why+", down", w, 5)
	}
}

// A node whose disk does not lead to one stays down, and its disk as it is; the others go on.
func TestRestOfDisksThatLeadNowhere(t *testing.T) {
	was := unrest(t)
	disks := map[string]impl.Disk{
		"records of others":        logOf(obeyRec(orderOf(1, impl.OrderRelease, 0)), takeRec(1, impl.AskTogether, 0, 0)),
		"records out of turn":      logOf(hearRec(1, answerOf(1, true, nil, 0, 1, 2, 3))),
		"a torn record behind it":  keptDisk("log", fileOf(hearRec(1, answerOf(1, true, nil, 0, 1, 2, 3)))+"torn"),
		"no room to be mended":     {Files: append([]impl.File{{Name: "log", Text: "torn", Kept: 4}}, fullDisk(impl.MaxFiles).Files[1:]...)},
		"a log that is not right":  keptDisk("log", strings.Repeat("t", impl.MaxText+1)),
		"a log without any record": keptDisk("log", ""),
		"a log of others as well":  keptDisk("a", "1", "log", fileOf(was.Done...)+"torn", "log+", "left"),
	}
	for why, d := range wrongDisks() {
		disks[why] = d
	}
	for why, d := range disks {
		for node := range 3 {
			w := changedWorld(was, func(w *impl.World) { w.Disks[node], w.Up[node] = d, false })
			got := wantRested(t, why, w, 4)
			if !got.Up[node] && !sameDisk(got.Disks[node], d) {
				t.Errorf("%s: the disk of a node that is down is %s", why, tell(got.Disks[node]))
			}
			if _, wrong := wrongDisks()[why]; wrong && got.Up[node] {
				t.Errorf("%s: the node %d came up", why, node)
			}
		}
	}
}

// Nothing waits for a disk that has no room, or for a record that has no text.
func TestRestWithoutRoomOnDisks(t *testing.T) {
	full := strings.Repeat(fileOf(someRecs()[0]), impl.MaxText/10)
	for why, d := range map[string]impl.Disk{
		"a full log": keptDisk("log", full), "as many files as may be": fullDisk(impl.MaxFiles), "a disk that is not right": keptDisk("log", "b", "log", "b"),
	} {
		for node := range 3 {
			w := changedWorld(unrest(t), func(w *impl.World) {
				w.Up, w.Disks[node] = []bool{true, true, true}, d
			})
			got := wantRested(t, why, w, 20)
			wantAtRest(t, why, got)
			if !sameDisk(got.Disks[node], d) {
				t.Errorf("%s: the disk is %s", why, tell(got.Disks[node]))
			}
		}
	}
	for _, ask := range []impl.Ask{askOf(1, -1, 0, 0), askOf(1, impl.AskAdd, 0, math.MinInt), askOf(1, impl.AskMove, impl.MaxNum+1, 1)} {
		w := changedWorld(newWorldByHand(4, 2), func(w *impl.World) { w.Calls = []impl.Call{{Ask: ask, Told: -1}} })
		got := wantRested(t, "a question without a record", w, 1)
		wantCalls(t, "a question without a record", got, impl.Call{Ask: ask, Told: 70, Say: impl.SayBad})
	}
}

// A call that is Said is told behind the first event at which the head is up, and not while the head stays down.
func TestRestOfCallsThatAreSaid(t *testing.T) {
	ask := askOf(10, impl.AskAdd, 0, 1)
	call, said := impl.Call{Ask: ask, When: 2, Told: -1}, impl.Call{Ask: ask, When: 2, Told: 70, Say: impl.SayYes}
	for _, up := range []bool{true, false} {
		for _, right := range []bool{true, false} {
			w := changedWorld(newWorldByHand(4, 2), func(w *impl.World) {
				w.Head.Said, w.Calls, w.Up[0], w.Up[2], w.Disks[0] = []impl.Said{saidOf(ask, impl.SayYes)}, []impl.Call{call}, up, false, logOf(takeRec(10, impl.AskAdd, 0, 1))
				if !right {
					w.Disks[0].Files[0].Kept = -1
				}
			})
			if got := wantRested(t, "said", w, 3); up || right {
				wantCalls(t, "said", got, said)
			} else {
				wantCalls(t, "said, and down", got, call)
			}
		}
	}
}

// The first call that is not Said is asked for, whether it is told or not; one that can't be taken keeps the others waiting.
func TestRestOfOddCalls(t *testing.T) {
	calls := func(list ...impl.Call) impl.World {
		return changedWorld(newWorldByHand(4, 2), func(w *impl.World) { w.Calls = list })
	}
	good := impl.Call{Ask: askOf(3, impl.AskAdd, 0, 1), When: 5, Told: -1}
	said := impl.Call{Ask: good.Ask, When: 5, Told: 70, Say: impl.SayYes}
	told := impl.Call{Ask: askOf(4, impl.AskTogether, 0, 1), When: 1, Told: 2, Say: impl.SayBad}
	wantCalls(t, "told, but not Said", wantRested(t, "told, but not Said", calls(told, good), 1), told, good)
	wantCalls(t, "told, but not Said", wantRested(t, "told, but not Said", calls(told, good), 2), told, said)
	wantCalls(t, "twice", wantRested(t, "twice", calls(good, good), 1), said, said)
	for _, id := range numbersOutOf(1, impl.MaxNum) {
		none := impl.Call{Ask: askOf(id, impl.AskTogether, 0, 1), Told: -1}
		wantCalls(t, "no Id", wantRested(t, "no Id", calls(none, good), 4), none, good)
		wantCalls(t, "no Id behind", wantRested(t, "no Id behind", calls(good, none), 4), said, none)
	}
	for _, place := range []int{math.MinInt, -2, 0, 71} {
		other := good
		other.Told = place
		wantCalls(t, "told at another place", wantRested(t, "told at another place", calls(other), 4), other)
	}
	many := changedWorld(newWorldByHand(4, 2), func(w *impl.World) {
		for id := 1; id <= impl.MaxAsks+2; id++ {
			w.Calls = append(w.Calls, impl.Call{Ask: askOf(id, impl.AskTogether, 0, 1), Told: -1})
		}
	})
	got := wantRested(t, "more than MaxAsks", many, 100)
	if len(got.Head.Said) != impl.MaxAsks || got.Calls[79].Told != 70 || got.Calls[80].Told != -1 {
		t.Errorf("%d are Said", len(got.Head.Said))
	}
}

// listsOf has all lists of a world, by what they hold.
type listsOf struct {
	numbers [][]int
	edges   [][]impl.Edge
	labels  [][][]int
	said    [][]impl.Said
	ledges  [][]impl.Ledge
	shards  [][]impl.Shard
	disks   [][]impl.Disk
	files   [][]impl.File
	ups     [][]bool
	net     [][]impl.Packet
	calls   [][]impl.Call
	recs    [][]impl.Rec
}

func (l *listsOf) put(w impl.World) {
	h := w.Head
	l.numbers = append(append(l.numbers, h.Own, h.Nums), h.Labels...)
	l.edges, l.labels, l.said = append(l.edges, h.Cuts, h.Task.Order.Edges), append(l.labels, h.Labels), append(l.said, h.Said)
	for _, s := range w.Shards {
		l.ledges, l.edges, l.numbers = append(l.ledges, s.Web.Edges), append(l.edges, s.Last.Edges), append(l.numbers, s.Last.Labels)
	}
	for _, d := range w.Disks {
		l.files = append(l.files, d.Files)
	}
	for _, r := range w.Done {
		l.edges, l.numbers = append(l.edges, r.Answer.Edges, r.Order.Edges), append(l.numbers, r.Answer.Labels)
	}
	l.shards, l.disks, l.ups = append(l.shards, w.Shards), append(l.disks, w.Disks), append(l.ups, w.Up)
	l.net, l.calls, l.recs = append(l.net, w.Net), append(l.calls, w.Calls), append(l.recs, w.Done)
}

func wantWorldsApart(t *testing.T, beside [][]int, worlds ...impl.World) {
	t.Helper()
	l := &listsOf{numbers: beside}
	for _, w := range worlds {
		l.put(w)
	}
	wantApart(t, "numbers", l.numbers...)
	wantApart(t, "edges", l.edges...)
	wantApart(t, "lists of labels", l.labels...)
	wantApart(t, "what is Said", l.said...)
	wantApart(t, "webs", l.ledges...)
	wantApart(t, "shards", l.shards...)
	wantApart(t, "disks", l.disks...)
	wantApart(t, "files", l.files...)
	wantApart(t, "who is up", l.ups...)
	wantApart(t, "Packets", l.net...)
	wantApart(t, "calls", l.calls...)
	wantApart(t, "records", l.recs...)
}

func spoilWorld(w impl.World) {
	spoilHead(w.Head)
	spoilRecs(w.Done)
	for _, s := range w.Shards {
		spoil(s.Web.Edges, inForest(99, 99, 99))
		spoilAnswer(s.Last)
	}
	for _, d := range w.Disks {
		spoil(d.Files, impl.File{Name: "!"})
	}
	spoil(w.Shards, impl.Shard{})
	spoil(w.Disks, impl.Disk{})
	spoil(w.Up, false)
	spoil(w.Net, impl.Packet{To: 99})
	spoil(w.Calls, impl.Call{When: 99})
}

func wantWorldUntouched(t *testing.T, w, was impl.World) {
	t.Helper()
	wantWorld(t, "handed in", w, was)
	wantHeadUntouched(t, w.Head, was.Head)
	wantRecsUntouched(t, w.Done, was.Done)
	wantListUntouched(t, w.Up, was.Up, true)
	wantListUntouched(t, w.Net, was.Net, impl.Packet{To: 77})
	wantListUntouched(t, w.Calls, was.Calls, impl.Call{When: 77})
	for at, s := range w.Shards {
		wantShardUntouched(t, s, was.Shards[at])
	}
	for at, d := range w.Disks {
		wantListUntouched(t, d.Files, was.Disks[at].Files, impl.File{Name: "spare", Text: "room", Kept: 1})
	}
	for _, s := range w.Shards[len(w.Shards):cap(w.Shards)] {
		if s.Id != 77 {
			t.Fatalf("in the room behind the shards is %v now", s)
		}
	}
	for _, d := range w.Disks[len(w.Disks):cap(w.Disks)] {
		if len(d.Files) != 1 || d.Files[0].Name != "spare" {
			t.Fatalf("in the room behind the disks is %s now", tell(d))
		}
	}
}

func worldsShareTexts(one, other impl.World) bool {
	for _, d := range one.Disks {
		for _, e := range other.Disks {
			if diskShares(d, e) {
				return true
			}
		}
	}
	for _, p := range one.Net {
		for _, q := range other.Net {
			if p.Text != "" && q.Text != "" && sharesMemory(p.Text, q.Text) {
				return true
			}
		}
	}
	return false
}

func wantRestApart(t *testing.T, was impl.World, rounds int) {
	t.Helper()
	w := worldWithin(was)
	for at := range w.Net {
		w.Net[at].Text = strings.Clone(w.Net[at].Text)
	}
	for at := range w.Disks {
		for place, f := range w.Disks[at].Files {
			w.Disks[at].Files[place].Name, w.Disks[at].Files[place].Text = strings.Clone(f.Name), strings.Clone(f.Text)
		}
	}
	one, two := impl.Rest(w, rounds), impl.Rest(w, rounds)
	want := worldWithin(two)
	wantWorld(t, "twice", one, two)
	wantWorldsApart(t, nil, w, one, two)
	if worldsShareTexts(w, one) {
		t.Fatalf("a text of the answer is a piece of what was handed in")
	}
	spoilWorld(one)
	wantWorldUntouched(t, w, was)
	wantWorld(t, "the other answer", two, want)
}

func TestRestLeavesItsWorldAlone(t *testing.T) {
	drawn := drawnNumber(145)
	for at := range 36 {
		_, worlds, _ := drawn.livedEvents(1+at%12, 1+at/12%3, 30)
		for _, w := range everyFew(worlds, 5) {
			for _, rounds := range []int{-1, 0, 1, 2} {
				wantRestApart(t, w, rounds)
			}
		}
	}
	for _, w := range wrongUnrest(t) {
		wantRestApart(t, w, 1)
	}
}

func TestRunClusterLeavesEventsAlone(t *testing.T) {
	drawn, spare := drawnNumber(146), impl.Event{Kind: 77}
	for at := range 36 {
		n, shards := 1+at%12, 1+at/12%3
		was, _, _ := drawn.livedEvents(n, shards, 40)
		events, lefts := []impl.Event{}, [][]int{}
		for _, e := range was {
			e.Left = within(e.Left, 77)
			events, lefts = append(events, e), append(lefts, e.Left)
		}
		events = within(events, spare)
		one, first, _ := impl.RunCluster(n, shards, events)
		two, second, _ := impl.RunCluster(n, shards, events)
		want := worldWithin(two)
		wantWorldsApart(t, append(lefts, first, second), one, two)
		spoilWorld(one)
		spoil(first, 99)
		wantWorld(t, "the other answer", two, want)
		for at, e := range events {
			wantListUntouched(t, e.Left, was[at].Left, 77)
			if e.Left, was[at].Left = nil, nil; tell(e) != tell(was[at]) {
				t.Fatalf("the event is now %s; it was %s", tell(e), tell(was[at]))
			}
		}
		for _, e := range events[len(events) : len(events)+4] {
			if e.Kind != 77 {
				t.Fatalf("in the room behind the events is %s now", tell(e))
			}
		}
	}
}

func TestNewWorldsAreKeptNowhere(t *testing.T) {
	for range 3 {
		one, _ := impl.WorldNew(5, 3)
		two, _ := impl.WorldNew(5, 3)
		wantWorldsApart(t, nil, one, two)
		spoilWorld(one)
		wantWorld(t, "a new world", two, newWorldByHand(5, 3))
	}
}

// Whoever sends events has ended when the call answers: nobody is left behind.
func TestNobodyIsLeftBehind(t *testing.T) {
	drawn := drawnNumber(147)
	events, _, _ := drawn.livedEvents(6, 3, impl.MaxLife)
	before := runtime.NumGoroutine()
	for range 300 {
		w, _, _ := impl.RunCluster(6, 3, events)
		impl.RunCluster(0, 3, events)
		impl.RunCluster(6, 2, append(events[:69:69], impl.Event{}))
		impl.Rest(w, 3)
	}
	for range 1000 {
		if runtime.NumGoroutine() <= before {
			return
		}
		runtime.Gosched() // one that has sent all may not have been let to its end yet
	}
	t.Errorf("%d goroutines are left; there were %d", runtime.NumGoroutine(), before)
}
