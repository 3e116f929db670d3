package tests

import (
	"math"
	"slices"
	"testing"

	"loop.example/g00130/impl"
)

func askOf(id, op, a, b int) impl.Ask { return impl.Ask{Id: id, Op: op, A: a, B: b} }

func saidOf(a impl.Ask, say int) impl.Said { return impl.Said{Id: a.Id, Ask: a, Say: say} }

func taskOf(a impl.Ask, shard int, o impl.Order) impl.Task {
	return impl.Task{Ask: a, Shard: shard, Order: o}
}

func sameTask(a, b impl.Task) bool {
	return a.Ask == b.Ask && a.Shard == b.Shard && sameOrder(a.Order, b.Order)
}

func sameHead(a, b impl.Head) bool {
	return a.N == b.N && slices.Equal(a.Own, b.Own) && slices.Equal(a.Cuts, b.Cuts) &&
		slices.EqualFunc(a.Labels, b.Labels, slices.Equal) && slices.Equal(a.Nums, b.Nums) &&
		sameTask(a.Task, b.Task) && slices.Equal(a.Said, b.Said)
}

// headWithin is a copy whose lists have room behind them, which nobody may write into.
func headWithin(h impl.Head) impl.Head {
	c, e := h, edge(77, 78)
	c.Own, c.Nums, c.Cuts = within(h.Own, 77), within(h.Nums, 77), within(h.Cuts, e)
	c.Labels, c.Said = listsWithin(h.Labels, 77), within(h.Said, saidOf(askOf(77, 77, 77, 77), 77))
	c.Task.Order.Edges = within(h.Task.Order.Edges, e)
	return c
}

// changedHead is a copy that is changed; the head that is handed in stays.
func changedHead(h impl.Head, change func(h *impl.Head)) impl.Head {
	c := headWithin(h)
	change(&c)
	return c
}

func headOkByWords(h impl.Head) bool {
	shards := len(h.Labels)
	if h.N < 1 || h.N > 12 || shards < 1 || shards > 3 || len(h.Nums) != shards || len(h.Own) != h.N || len(h.Said) > 80 {
		return false
	}
	for at, labels := range h.Labels {
		if !labelsOkByWords(h.N, labels) || h.Nums[at] < 0 || h.Nums[at] > 99991 {
			return false
		}
	}
	for _, owner := range h.Own {
		if !slices.Contains(countTo(shards + 1)[1:], owner) {
			return false
		}
	}
	return graphOkByWords(graphOf(h.N, h.Cuts...)) && len(insideByWords(h.Own, h.Cuts)) == 0 && saidOkByWords(h.Said) && taskOkByWords(h)
}

// insideByWords are the edges whose ends one shard both has, whichever that is.
func insideByWords(own []int, edges []impl.Edge) []impl.Edge {
	inside := []impl.Edge{}
	for _, e := range edges {
		if own[e.A] == own[e.B] {
			inside = append(inside, e)
		}
	}
	return inside
}

func saidOkByWords(said []impl.Said) bool {
	ids := map[int]int{}
	for _, s := range said {
		if s.Id != s.Ask.Id || !slices.Contains([]int{1, 2, 3}, s.Say) {
			return false
		}
		ids[s.Id]++
	}
	return len(ids) == len(said)
}

func taskOkByWords(h impl.Head) bool {
	t, told := h.Task, append([]int{math.MinInt}, h.Nums...)
	if sameTask(t, impl.Task{}) {
		return true
	}
	if t.Shard < 1 || t.Shard >= len(told) || !orderOkByWords(h.N, t.Order) || t.Order.Num-1 != told[t.Shard] {
		return false
	}
	_, said := replyByWords(h, t.Ask.Id)
	return !said && t.Ask.Op != 3
}

// replyByWords goes from the last one on, so that the first of two alike counts.
func replyByWords(h impl.Head, id int) (int, bool) {
	say, found := 0, false
	for _, s := range slices.Backward(h.Said) {
		if s.Id == id {
			say, found = s.Say, true
		}
	}
	return say, found
}

func senselessByWords(h impl.Head, a impl.Ask) bool {
	verts, others := countTo(h.N), countTo(h.N)
	if a.Op == 4 {
		others = countTo(len(h.Labels) + 1)[1:]
	}
	return a.Op < 1 || a.Op > 4 || !slices.Contains(verts, a.A) || !slices.Contains(others, a.B) || a.A == a.B && a.Op < 3
}

func withSaid(h impl.Head, a impl.Ask, say int, cuts ...impl.Edge) impl.Head {
	return changedHead(h, func(h *impl.Head) {
		h.Cuts, h.Said, h.Task = cuts, append(h.Said, saidOf(a, say)), impl.Task{}
	})
}

func withTask(h impl.Head, a impl.Ask, shard int, o impl.Order) impl.Head {
	return changedHead(h, func(h *impl.Head) {
		o.Num = h.Nums[shard-1] + 1
		h.Task = taskOf(a, shard, o)
	})
}

// changedByWords are the edges with e, or without it; and whether it was not there, or was.
func changedByWords(n int, edges []impl.Edge, e impl.Edge, come bool) ([]impl.Edge, bool) {
	there := slices.Contains(edges, e)
	changed := slices.DeleteFunc(allEdges(n), func(other impl.Edge) bool {
		if other == e {
			return !come
		}
		return !slices.Contains(edges, other)
	})
	return changed, there != come
}

func sayByWords(yes bool) int {
	if yes {
		return impl.SayYes
	}
	return impl.SayNo
}

func askedByWords(h impl.Head, a impl.Ask) (impl.Head, int) {
	if !headOkByWords(h) || a.Id < 1 || a.Id > 100000 {
		return impl.Head{}, 0
	}
	if _, said := replyByWords(h, a.Id); said || h.Task.Shard != 0 || len(h.Said) >= 80 {
		return h, 0
	}
	if senselessByWords(h, a) {
		return withSaid(h, a, impl.SayBad, h.Cuts...), 1
	}
	from, e := h.Own[a.A], edge(min(a.A, a.B), max(a.A, a.B))
	switch {
	case a.Op == 3:
		labels, _ := wholeByWords(wholeCase{h.N, h.Labels, h.Cuts})
		return withSaid(h, a, sayByWords(labels[a.A] == labels[a.B]), h.Cuts...), 1
	case a.Op == 4 && from == a.B:
		return withSaid(h, a, impl.SayNo, h.Cuts...), 1
	case a.Op == 4:
		return withTask(h, a, from, orderOf(0, 3, a.A)), 2
	case from == h.Own[a.B]:
		return withTask(h, a, from, orderOf(0, a.Op, 0, e)), 2
	}
	cuts, yes := changedByWords(h.N, h.Cuts, e, a.Op == 1)
	return withSaid(h, a, sayByWords(yes), cuts...), 1
}

// heardByWords says SayBad where the document says nothing: of a Task that no question makes.
func heardByWords(h impl.Head, shard int, a impl.Answer) (impl.Head, int) {
	if !headOkByWords(h) || !answerOkByWords(h.N, a) || h.Task.Shard == 0 || shard != h.Task.Shard || a.Num != h.Task.Order.Num {
		return h, 0
	}
	task := h.Task
	h = changedHead(h, func(h *impl.Head) { h.Nums[shard-1], h.Labels[shard-1] = a.Num, a.Labels })
	switch {
	case task.Ask.Op == 1 || task.Ask.Op == 2:
		return withSaid(h, task.Ask, sayByWords(a.Ok), h.Cuts...), 1
	case task.Ask.Op == 4 && task.Order.Op == 3:
		return releasedByWords(h, task.Ask, a.Edges)
	case task.Ask.Op == 4 && task.Order.Op == 4:
		return withSaid(h, task.Ask, impl.SayYes, h.Cuts...), 1
	}
	return withSaid(h, task.Ask, impl.SayBad, h.Cuts...), 1
}

func releasedByWords(h impl.Head, a impl.Ask, released []impl.Edge) (impl.Head, int) {
	cuts, come := h.Cuts, true
	for _, e := range released {
		if cuts, come = changedByWords(h.N, cuts, e, true); !come {
			return withSaid(h, a, impl.SayBad, h.Cuts...), 1
		}
	}
	own := slices.Clone(h.Own)
	for v := range own {
		if v == a.A {
			own[v] = a.B
		}
	}
	inside, outside := []impl.Edge{}, []impl.Edge{}
	for _, e := range cuts {
		if own[e.A] == a.B && own[e.B] == a.B {
			inside = append(inside, e)
		} else {
			outside = append(outside, e)
		}
	}
	h.Own = own
	if len(inside) == 0 {
		return withSaid(h, a, impl.SayYes, outside...), 1
	}
	h.Cuts = outside
	return withTask(h, a, a.B, orderOf(0, 4, 0, inside...)), 2
}

func wantAsked(t *testing.T, why string, h impl.Head, a impl.Ask, want impl.Head, told int) impl.Head {
	t.Helper()
	got, code := impl.Take(h, a)
	if code != told || !sameHead(got, want) {
		t.Fatalf("%s: Take(%v, %v) = %v, %d; want %v, %d", why, h, a, got, code, want, told)
	}
	return got
}

func wantHeard(t *testing.T, why string, h impl.Head, shard int, a impl.Answer, want impl.Head, told int) impl.Head {
	t.Helper()
	got, code := impl.Hear(h, shard, a)
	if code != told || !sameHead(got, want) {
		t.Fatalf("%s: Hear(%v, %d, %v) = %v, %d; want %v, %d", why, h, shard, a, got, code, want, told)
	}
	return got
}

// Where a question or an answer is told 1 or 2, the head that comes is right.
func wantRightHead(t *testing.T, why string, h impl.Head) {
	t.Helper()
	if !impl.HeadOk(h) {
		t.Fatalf("%s: the head %v is not right", why, h)
	}
}

func wantSaid(t *testing.T, why string, h impl.Head, a impl.Ask, say int, cuts ...impl.Edge) {
	t.Helper()
	got := wantAsked(t, why, h, a, withSaid(h, a, say, cuts...), 1)
	wantRightHead(t, why, got)
	wantReply(t, why, got, a.Id, say, true)
	wantAsked(t, why+", asked again", got, a, got, 0)
}

func wantTask(t *testing.T, why string, h impl.Head, a impl.Ask, shard int, o impl.Order) impl.Head {
	t.Helper()
	want := changedHead(h, func(h *impl.Head) { h.Task = taskOf(a, shard, o) })
	got := wantAsked(t, why, h, a, want, 2)
	wantRightHead(t, why, got)
	wantReply(t, why, got, a.Id, 0, false)
	if !impl.Busy(got) {
		t.Fatalf("%s: the head %v is not Busy", why, got)
	}
	return got
}

func wantReply(t *testing.T, why string, h impl.Head, id, say int, found bool) {
	t.Helper()
	if got, ok := impl.ReplyOf(h, id); got != say || ok != found {
		t.Fatalf("%s: ReplyOf(%v, %d) = %d, %v; want %d, %v", why, h, id, got, ok, say, found)
	}
}

func wantHeadOk(t *testing.T, why string, h impl.Head, want bool) {
	t.Helper()
	if headOkByWords(h) != want {
		t.Fatalf("%s: the test has the wrong head %v", why, h)
	}
	if impl.HeadOk(h) != want {
		t.Fatalf("%s: the head %v is right: %v", why, h, !want)
	}
}

// manySaid has so many, whose Ids go up from 1000 on.
func manySaid(count int) []impl.Said {
	said := []impl.Said{}
	for at := range count {
		said = append(said, saidOf(askOf(1000+at, 1+at%4, at%6, (at+1)%6), 1+at%3))
	}
	return said
}

// freeHead has three shards, of 0, 3 and 5, of 1 and 4, and of 2; the edges of 0 and 3, of 1 and 4 are
// within them, and it waits for nobody.
func freeHead() impl.Head {
	return impl.Head{
		N: 6, Own: []int{1, 2, 3, 1, 2, 1}, Cuts: []impl.Edge{edge(0, 1), edge(2, 5)},
		Labels: [][]int{{0, 1, 2, 0, 4, 5}, {0, 1, 2, 3, 1, 5}, {0, 1, 2, 3, 4, 5}}, Nums: []int{3, 7, 0},
		Said: []impl.Said{saidOf(askOf(10, impl.AskAdd, 3, 0), impl.SayYes), saidOf(askOf(4, impl.AskTake, 9, 9), impl.SayBad), saidOf(askOf(12, impl.AskMove, 1, 2), impl.SayNo)},
	}
}

// busyHead is freeHead with a Task: the question has the Id 20, and the order the Num that is its shard's.
func busyHead(op, a, b, shard int, o impl.Order) impl.Head {
	return withTask(freeHead(), askOf(20, op, a, b), shard, o)
}

func addingHead() impl.Head {
	return busyHead(impl.AskAdd, 5, 3, 1, orderOf(0, impl.OrderAdd, 0, edge(3, 5)))
}

func movingHead(v, to int) impl.Head {
	h := freeHead()
	return busyHead(impl.AskMove, v, to, h.Own[v], orderOf(0, impl.OrderRelease, v))
}

func acceptingHead() impl.Head {
	return busyHead(impl.AskMove, 1, 3, 3, orderOf(0, impl.OrderAccept, 0, edge(1, 2)))
}

func TestLimitsOfHeads(t *testing.T) {
	if impl.MaxAsks != 80 {
		t.Errorf("MaxAsks is %d", impl.MaxAsks)
	}
	asks, says := []int{impl.AskAdd, impl.AskTake, impl.AskTogether, impl.AskMove}, []int{impl.SayYes, impl.SayNo, impl.SayBad}
	if !slices.Equal(asks, []int{1, 2, 3, 4}) || !slices.Equal(says, []int{1, 2, 3}) {
		t.Errorf("the questions are %v, what is said to them %v", asks, says)
	}
}

func TestHeadNew(t *testing.T) {
	for _, n := range append(numbersOutOf(1, impl.MaxVerts), countTo(impl.MaxVerts+1)...) {
		for _, shards := range append(numbersOutOf(1, impl.MaxShards), 1, 2, 3) {
			h, ok := impl.HeadNew(n, shards)
			right := n >= 1 && n <= 12 && shards >= 1 && shards <= 3
			want := impl.Head{}
			if right {
				want = newHeadByHand(n, shards)
			}
			if ok != right || !sameHead(h, want) || impl.HeadOk(h) != right {
				t.Fatalf("HeadNew(%d, %d) = %v, %v; want %v, %v", n, shards, h, ok, want, right)
			}
			if impl.Busy(h) || len(h.Said) > 0 {
				t.Fatalf("the new head %v is Busy, or has Said something", h)
			}
		}
	}
}

func newHeadByHand(n, shards int) impl.Head {
	own := [][]int{{1, 1, 1, 1, 1, 1, 1, 1, 1, 1, 1, 1}, {1, 2, 1, 2, 1, 2, 1, 2, 1, 2, 1, 2}, {1, 2, 3, 1, 2, 3, 1, 2, 3, 1, 2, 3}}[shards-1][:n]
	labels := [][]int{countTo(n), countTo(n), countTo(n)}[:shards]
	return impl.Head{N: n, Own: own, Labels: labels, Nums: []int{0, 0, 0}[:shards]}
}

// rightHeads meet what the document asks for, some of it just so.
func rightHeads() map[string]impl.Head {
	list := map[string]impl.Head{
		"that waits for nobody": freeHead(), "that adds": addingHead(), "that moves": movingHead(0, 2), "that lets accept": acceptingHead(),
		"that takes": busyHead(impl.AskTake, 0, 5, 1, orderOf(0, impl.OrderTake, 0, edge(0, 5))),
	}
	put := func(why string, was impl.Head, change func(h *impl.Head)) { list[why] = changedHead(was, change) }
	for _, num := range []int{0, 1, impl.MaxNum - 10, impl.MaxNum - 9} {
		put("Nums of "+tell(num), freeHead(), func(h *impl.Head) { h.Nums[1] = num })
		put("Nums of the shard that is waited for of "+tell(num), addingHead(), func(h *impl.Head) { h.Nums[0], h.Task.Order.Num = num, num+1 })
	}
	put("a shard that has nothing", freeHead(), func(h *impl.Head) { h.Own, h.Cuts = []int{1, 2, 1, 1, 2, 2}, []impl.Edge{edge(0, 1)} })
	put("all of one shard", freeHead(), func(h *impl.Head) { h.Own, h.Cuts = slices.Repeat([]int{3}, 6), nil })
	put("Labels of what no shard has", freeHead(), func(h *impl.Head) { h.Labels = [][]int{make([]int, 6), make([]int, 6), make([]int, 6)} })
	put("MaxAsks Said", freeHead(), func(h *impl.Head) { h.Said = manySaid(impl.MaxAsks) })
	put("MaxAsks Said, and a Task", addingHead(), func(h *impl.Head) { h.Said = manySaid(impl.MaxAsks) })
	put("nothing Said", addingHead(), func(h *impl.Head) { h.Said = nil })
	for _, id := range []int{math.MinInt, -1, 0, impl.MaxNum, impl.MaxNum + 1, math.MaxInt} {
		put("an Id that no question has in Said, "+tell(id), freeHead(), func(h *impl.Head) { h.Said[1] = saidOf(askOf(id, 3, 0, 0), 1) })
		put("a Task of an Id that no question has, "+tell(id), addingHead(), func(h *impl.Head) { h.Task.Ask.Id = id })
	}
	for _, op := range []int{math.MinInt, -1, 0, 1, 2, 4, 5, math.MaxInt} {
		put("a Task of the Op "+tell(op), addingHead(), func(h *impl.Head) { h.Task.Ask.Op = op })
		put("the Op in Said "+tell(op), freeHead(), func(h *impl.Head) { h.Said[0].Ask.Op = op })
	}
	put("a Task of no vertices", addingHead(), func(h *impl.Head) { h.Task.Ask.A, h.Task.Ask.B = -5, 99 })
	put("a Task with lists without any", freeHead(), func(h *impl.Head) { h.Task.Order.Edges = []impl.Edge{} })
	for _, o := range commandsOn(6, 8, 20) {
		put("the order "+tell(o), freeHead(), func(h *impl.Head) { h.Task = taskOf(askOf(20, 1, 0, 3), 2, o) })
	}
	return list
}

func TestHeadOkOfRightHeads(t *testing.T) {
	for why, h := range rightHeads() {
		wantHeadOk(t, why, h, true)
	}
}

// With three shards of four vertices each there are 48 edges between shards, and no head has more.
func TestHeadOkOfAsManyCutsAsMayBe(t *testing.T) {
	h, _ := impl.HeadNew(impl.MaxVerts, impl.MaxShards)
	h.Cuts = slices.DeleteFunc(allEdges(impl.MaxVerts), func(e impl.Edge) bool { return h.Own[e.A] == h.Own[e.B] })
	wantHeadOk(t, "all edges between shards", h, true)
	if len(h.Cuts) != 48 {
		t.Errorf("there are %d edges between shards", len(h.Cuts))
	}
	for at, e := range allEdges(impl.MaxVerts) {
		cuts, come := changedByWords(12, h.Cuts, e, true)
		if come {
			wantHeadOk(t, "one within a shard beside them, "+tell(at), changedHead(h, func(h *impl.Head) { h.Cuts = cuts }), false)
		}
	}
	wantHeadOk(t, "MaxEdges", changedHead(h, func(h *impl.Head) { h.Cuts = allEdges(impl.MaxVerts) }), false)
	wantHeadOk(t, "MaxEdges and one more", changedHead(h, func(h *impl.Head) { h.Cuts = oneTooMany() }), false)
}

// wrongHeads break one rule each.
func wrongHeads() map[string]impl.Head {
	list := map[string]impl.Head{"nothing": {}}
	put := func(why string, was impl.Head, change func(h *impl.Head)) { list[why] = changedHead(was, change) }
	for _, n := range append(numbersOutOf(1, impl.MaxVerts), 5, 7) {
		put("N of "+tell(n), freeHead(), func(h *impl.Head) { h.N = n })
	}
	putWrongNew(put)
	putWrongShards(put)
	putWrongCuts(put)
	putWrongSaid(put)
	putWrongTasks(put)
	return list
}

type putHead func(why string, was impl.Head, change func(h *impl.Head))

// putWrongNew has heads of which all fits together, but N, or how many shards there are.
func putWrongNew(put putHead) {
	put("no vertices", impl.Head{}, func(h *impl.Head) { h.Labels, h.Nums = [][]int{{}}, []int{0} })
	put("MaxVerts and one more", impl.Head{}, func(h *impl.Head) {
		h.N, h.Own, h.Labels, h.Nums = 13, slices.Repeat([]int{1}, 13), [][]int{countTo(13)}, []int{0}
	})
	put("no shards", impl.Head{}, func(h *impl.Head) { h.N, h.Own = 2, []int{1, 1} })
	put("MaxShards and one more", freeHead(), func(h *impl.Head) { h.Labels, h.Nums = append(h.Labels, countTo(6)), append(h.Nums, 0) })
	put("far too many shards", freeHead(), func(h *impl.Head) { h.Labels, h.Nums = slices.Repeat(h.Labels, 50), slices.Repeat(h.Nums, 50) })
}

func putWrongShards(put putHead) {
	put("Labels without Nums", freeHead(), func(h *impl.Head) { h.Nums = nil })
	put("Nums without Labels", freeHead(), func(h *impl.Head) { h.Labels = nil })
	put("Nums too few", freeHead(), func(h *impl.Head) { h.Nums = h.Nums[:2] })
	put("Nums too many", freeHead(), func(h *impl.Head) { h.Nums = append(h.Nums, 0) })
	put("Labels too few", freeHead(), func(h *impl.Head) { h.Labels = h.Labels[:2] })
	for at := range 3 {
		for _, num := range numbersOutOf(0, impl.MaxNum-9) {
			if num < 0 || num > impl.MaxNum-9 {
				put("Nums of "+tell(num)+" at "+tell(at), freeHead(), func(h *impl.Head) { h.Nums[at] = num })
			}
		}
		for which, labels := range wrongLabels(6) {
			put("Labels at "+tell(at)+", "+tell(which), freeHead(), func(h *impl.Head) { h.Labels[at] = labels })
		}
	}
	put("Own too short", freeHead(), func(h *impl.Head) { h.Own, h.Cuts = h.Own[:5], h.Cuts[:1] })
	put("Own too long", freeHead(), func(h *impl.Head) { h.Own = append(h.Own, 1) })
	put("no Own", freeHead(), func(h *impl.Head) { h.Own, h.Cuts = nil, nil })
	for v := range 6 {
		for _, shard := range append(numbersOutOf(1, impl.MaxShards), 0) {
			put("the vertex "+tell(v)+" had by "+tell(shard), freeHead(), func(h *impl.Head) { h.Own[v] = shard })
		}
		put("the vertex "+tell(v)+" had by the third of two", freeHead(), func(h *impl.Head) {
			h.Own, h.Cuts, h.Labels, h.Nums = slices.Repeat([]int{2}, 6), nil, h.Labels[:2], h.Nums[:2]
			h.Own[v] = 3
		})
	}
}

func putWrongCuts(put putHead) {
	put("Cuts that do not ascend", freeHead(), func(h *impl.Head) { h.Cuts = []impl.Edge{edge(2, 5), edge(0, 1)} })
	put("Cuts that do not ascend by B", freeHead(), func(h *impl.Head) { h.Cuts = []impl.Edge{edge(0, 2), edge(0, 1)} })
	put("a cut twice", freeHead(), func(h *impl.Head) { h.Cuts = []impl.Edge{edge(0, 1), edge(0, 1)} })
	for at, e := range wrongEdges(6) {
		put("a cut that is not right, "+tell(at), freeHead(), func(h *impl.Head) { h.Cuts = []impl.Edge{e} })
		put("a cut that is not right behind another, "+tell(at), freeHead(), func(h *impl.Head) { h.Cuts = []impl.Edge{edge(0, 1), e} })
	}
	for _, e := range []impl.Edge{edge(0, 3), edge(0, 5), edge(3, 5), edge(1, 4)} {
		put("a cut within a shard, "+tell(e), freeHead(), func(h *impl.Head) { h.Cuts = []impl.Edge{e} })
		put("a cut within a shard among others, "+tell(e), freeHead(), func(h *impl.Head) { h.Cuts, _ = changedByWords(6, h.Cuts, e, true) })
	}
}

func putWrongSaid(put putHead) {
	put("MaxAsks Said and one more", freeHead(), func(h *impl.Head) { h.Said = manySaid(impl.MaxAsks + 1) })
	put("far more Said", freeHead(), func(h *impl.Head) { h.Said = manySaid(300) })
	put("two Said of one Id", freeHead(), func(h *impl.Head) { h.Said[2] = h.Said[0] })
	put("two Said of one Id, and unlike else", freeHead(), func(h *impl.Head) { h.Said[2] = saidOf(askOf(h.Said[1].Id, 3, 0, 1), 2) })
	put("two Said of the Id 0", freeHead(), func(h *impl.Head) { h.Said = make([]impl.Said, 2); h.Said[0].Say, h.Said[1].Say = 1, 1 })
	put("the last of MaxAsks Said has the Id of the first", freeHead(), func(h *impl.Head) {
		h.Said = manySaid(impl.MaxAsks)
		h.Said[79] = h.Said[0]
	})
	for at := range 3 {
		put("an Id that is not its Ask's, "+tell(at), freeHead(), func(h *impl.Head) { h.Said[at].Id++ })
		put("an Ask's Id that is not its own, "+tell(at), freeHead(), func(h *impl.Head) { h.Said[at].Ask.Id = 0 })
		for _, say := range append(numbersOutOf(1, 3), 0) {
			put("a Say of "+tell(say)+" at "+tell(at), freeHead(), func(h *impl.Head) { h.Said[at].Say = say })
		}
	}
}

func putWrongTasks(put putHead) {
	for _, shard := range append(numbersOutOf(1, impl.MaxShards), 0, 2, 3) { // of 2 and 3 Nums tell something else
		put("a Task of the shard "+tell(shard), addingHead(), func(h *impl.Head) { h.Task.Shard = shard })
	}
	put("a Task of the third of two shards", freeHead(), func(h *impl.Head) {
		h.Own, h.Cuts, h.Labels, h.Nums = slices.Repeat([]int{2}, 6), nil, h.Labels[:2], h.Nums[:2]
		h.Task = taskOf(askOf(20, 1, 0, 3), 3, orderOf(1, impl.OrderAdd, 0, edge(0, 3)))
	})
	for _, num := range []int{math.MinInt, -1, 0, 1, 2, 3, 5, 6, impl.MaxNum, math.MaxInt} {
		put("a Task of the Num "+tell(num), addingHead(), func(h *impl.Head) { h.Task.Order.Num = num })
	}
	for why, cases := range wrongOrders() {
		for at, c := range cases {
			if c.what.Num = 4; !orderOkByWords(6, c.what) { // what had no fault but its Num has none now
				put("the order of the Task: "+why+", "+tell(at), addingHead(), func(h *impl.Head) { h.Task.Order = c.what })
			}
		}
	}
	for _, said := range freeHead().Said {
		put("a Task whose Id is Said, "+tell(said.Id), addingHead(), func(h *impl.Head) { h.Task.Ask.Id = said.Id })
	}
	put("a Task of AskTogether", addingHead(), func(h *impl.Head) { h.Task.Ask.Op = impl.AskTogether })
	put("an order, and no question", freeHead(), func(h *impl.Head) { h.Task.Order = orderOf(4, impl.OrderAdd, 0, edge(3, 5)) })
	put("a question, and no order", freeHead(), func(h *impl.Head) { h.Task.Ask = askOf(20, 1, 3, 5) })
	put("a shard, and no order", freeHead(), func(h *impl.Head) { h.Task.Shard = 1 })
	put("an Id alone", freeHead(), func(h *impl.Head) { h.Task.Ask.Id = 20 })
	put("an Op alone", freeHead(), func(h *impl.Head) { h.Task.Ask.Op = 1 })
	put("an A alone", freeHead(), func(h *impl.Head) { h.Task.Ask.A = 1 })
	put("a B alone", freeHead(), func(h *impl.Head) { h.Task.Ask.B = 1 })
	put("a Num alone", freeHead(), func(h *impl.Head) { h.Task.Order.Num = 1 })
	put("an order's Op alone", freeHead(), func(h *impl.Head) { h.Task.Order.Op = 1 })
	put("edges alone", freeHead(), func(h *impl.Head) { h.Task.Order.Edges = []impl.Edge{edge(3, 5)} })
	put("a V alone", freeHead(), func(h *impl.Head) { h.Task.Order.V = 1 })
}

func TestHeadOkOfWrongHeads(t *testing.T) {
	list := wrongHeads()
	for why, h := range list {
		wantHeadOk(t, why, h, false)
	}
	if len(list) < 300 {
		t.Errorf("only %d heads are wrong", len(list))
	}
}

// Busy looks at nothing but the Task's Shard.
func TestBusy(t *testing.T) {
	for why, h := range rightHeads() {
		if want := !sameTask(h.Task, impl.Task{}); impl.Busy(h) != want {
			t.Errorf("a head %s is Busy: %v", why, !want)
		}
	}
	for _, shard := range append(numbersOutOf(0, impl.MaxShards), 0, 1, 2, 3) {
		alone := impl.Head{Task: impl.Task{Shard: shard}}
		if impl.Busy(alone) != (shard != 0) {
			t.Errorf("a head with a Task of the shard %d alone is Busy: %v", shard, shard == 0)
		}
	}
	for why, h := range wrongHeads() {
		if impl.Busy(h) != (h.Task.Shard != 0) {
			t.Errorf("a head that is not right, %s, is Busy: %v", why, h.Task.Shard == 0)
		}
	}
}

func TestTakeRefusesWrongHeads(t *testing.T) {
	for why, h := range wrongHeads() {
		for _, a := range []impl.Ask{askOf(20, 3, 0, 0), askOf(1, 1, 0, 1), askOf(10, 1, 3, 0), askOf(2, 9, 0, 0), askOf(0, 1, 0, 1), {}} {
			wantAsked(t, why, h, a, impl.Head{}, 0)
		}
	}
}

// The head that is told beside 0 is none where the Id can't be one, also where something else is in the way.
func TestTakeRefusesWrongIds(t *testing.T) {
	for why, h := range rightHeads() {
		for _, id := range append(numbersOutOf(1, impl.MaxNum), 0) {
			wantAsked(t, why, h, askOf(id, impl.AskTogether, 0, 0), impl.Head{}, 0)
			wantAsked(t, why, h, askOf(id, 0, 0, 0), impl.Head{}, 0)
		}
	}
	for _, id := range []int{0, impl.MaxNum + 1} {
		was := changedHead(freeHead(), func(h *impl.Head) { h.Said[0] = saidOf(askOf(id, 1, 3, 0), 1) })
		wantAsked(t, "Said already, and no Id", was, askOf(id, 1, 3, 0), impl.Head{}, 0)
		was = changedHead(addingHead(), func(h *impl.Head) { h.Task.Ask.Id = id })
		wantAsked(t, "the Task's, and no Id", was, askOf(id, 1, 3, 0), impl.Head{}, 0)
	}
	wantSaid(t, "the least Id", freeHead(), askOf(1, 3, 0, 0), impl.SayYes, freeHead().Cuts...)
	wantSaid(t, "the greatest Id", freeHead(), askOf(impl.MaxNum, 3, 0, 0), impl.SayYes, freeHead().Cuts...)
}

func TestTakeLeavesTheHeadAsItIs(t *testing.T) {
	full := changedHead(freeHead(), func(h *impl.Head) { h.Said = manySaid(impl.MaxAsks) })
	for _, op := range []int{impl.AskAdd, impl.AskTake, impl.AskTogether, impl.AskMove, 0, 9} {
		for _, s := range freeHead().Said {
			wantAsked(t, "Said already", freeHead(), askOf(s.Id, op, 0, 1), freeHead(), 0)
			wantAsked(t, "Said already, and Busy", addingHead(), askOf(s.Id, op, 0, 1), addingHead(), 0)
		}
		for _, h := range []impl.Head{addingHead(), movingHead(0, 2), acceptingHead()} {
			wantAsked(t, "the Task's Id", h, h.Task.Ask, h, 0)
			wantAsked(t, "the Task's Id, and another question", h, askOf(20, op, 0, 1), h, 0)
			wantAsked(t, "another Id while it is Busy", h, askOf(21, op, 0, 1), h, 0)
			wantAsked(t, "no sense while it is Busy", h, askOf(21, op, -1, 99), h, 0)
		}
		wantAsked(t, "MaxAsks Said", full, askOf(1, op, 0, 1), full, 0)
		wantAsked(t, "MaxAsks Said, and no sense", full, askOf(1, op, -1, 99), full, 0)
		wantAsked(t, "MaxAsks Said, and one of them", full, askOf(1079, op, 0, 1), full, 0)
	}
	for why, h := range rightHeads() {
		if impl.Busy(h) {
			wantAsked(t, why, h, askOf(21, impl.AskTogether, 0, 0), h, 0)
		}
	}
}

// One below MaxAsks the head takes one more, and waits for its answer.
func TestTakeOfTheLastQuestion(t *testing.T) {
	h := changedHead(freeHead(), func(h *impl.Head) { h.Said = manySaid(impl.MaxAsks - 1) })
	wantSaid(t, "the last one", h, askOf(1, impl.AskTogether, 3, 4), impl.SayYes, h.Cuts...)
	wantSaid(t, "the last one, without sense", h, askOf(1, 0, 3, 4), impl.SayBad, h.Cuts...)
	busy := wantTask(t, "the last one", h, askOf(1, impl.AskAdd, 3, 5), 1, orderOf(4, impl.OrderAdd, 0, edge(3, 5)))
	a := answerOf(4, true, nil, 0, 1, 2, 0, 4, 0)
	got, told := impl.Hear(busy, 1, a)
	if told != 1 || len(got.Said) != impl.MaxAsks || !impl.HeadOk(got) {
		t.Fatalf("Hear(%v, 1, %v) = %v, %d", busy, a, got, told)
	}
	wantAsked(t, "behind it", got, askOf(2, impl.AskTogether, 3, 4), got, 0)
}

func TestTakeOfWhatMakesNoSense(t *testing.T) {
	h := freeHead()
	bad := func(op, a, b int) {
		t.Helper()
		wantSaid(t, "without sense", h, askOf(20, op, a, b), impl.SayBad, h.Cuts...)
	}
	for _, op := range append(numbersOutOf(1, 4), 0) {
		bad(op, 0, 1)
		bad(op, 0, 0)
	}
	for _, none := range numbersOutOf(0, h.N-1) {
		for _, op := range []int{impl.AskAdd, impl.AskTake, impl.AskTogether} {
			bad(op, none, 1)
			bad(op, 1, none)
			bad(op, none, none)
		}
		bad(impl.AskMove, none, 1)
	}
	for _, none := range append(numbersOutOf(1, impl.MaxShards), 0) {
		bad(impl.AskMove, 0, none)
	}
	for v := range h.N {
		bad(impl.AskAdd, v, v)
		bad(impl.AskTake, v, v)
	}
	two, _ := impl.HeadNew(4, 2)
	wantSaid(t, "a shard that other heads have", two, askOf(1, impl.AskMove, 0, 3), impl.SayBad)
	one, _ := impl.HeadNew(1, 1)
	wantSaid(t, "a shard that is no vertex", one, askOf(1, impl.AskMove, 0, 1), impl.SayNo)
	wantSaid(t, "a vertex that is no shard", one, askOf(1, impl.AskMove, 0, 0), impl.SayBad)
}

func TestTakeOfTogether(t *testing.T) {
	h := freeHead()
	for _, c := range []struct {
		why  string
		a, b int
		say  int
	}{
		{"within a shard", 0, 3, impl.SayYes}, {"within another shard", 4, 1, impl.SayYes},
		{"by a cut", 0, 1, impl.SayYes}, {"by another cut", 5, 2, impl.SayYes},
		{"by a shard and a cut", 3, 1, impl.SayYes}, {"by a shard, a cut and another shard", 3, 4, impl.SayYes},
		{"of one shard, but apart", 3, 5, impl.SayNo}, {"of two shards", 4, 2, impl.SayNo}, {"of two shards, with cuts each", 0, 2, impl.SayNo},
	} {
		wantSaid(t, c.why, h, askOf(20, impl.AskTogether, c.a, c.b), c.say, h.Cuts...)
		wantSaid(t, c.why+", the other way round", h, askOf(20, impl.AskTogether, c.b, c.a), c.say, h.Cuts...)
	}
	for v := range h.N {
		wantSaid(t, "with itself", h, askOf(20, impl.AskTogether, v, v), impl.SayYes, h.Cuts...)
	}
}

func TestTakeOfEdgesBetweenShards(t *testing.T) {
	h, was := freeHead(), freeHead().Cuts
	for _, e := range allEdges(h.N) {
		if h.Own[e.A] == h.Own[e.B] {
			continue
		}
		for _, ends := range []impl.Edge{e, turned(e)} {
			add, take := askOf(20, impl.AskAdd, ends.A, ends.B), askOf(20, impl.AskTake, ends.A, ends.B)
			if slices.Contains(was, e) {
				less, _ := changedByWords(h.N, was, e, false)
				wantSaid(t, "there already", h, add, impl.SayNo, was...)
				wantSaid(t, "there", h, take, impl.SayYes, less...)
			} else {
				more, _ := changedByWords(h.N, was, e, true)
				wantSaid(t, "not there", h, add, impl.SayYes, more...)
				wantSaid(t, "not there", h, take, impl.SayNo, was...)
			}
		}
	}
	wantSaid(t, "by hand", h, askOf(20, impl.AskAdd, 4, 0), impl.SayYes, edge(0, 1), edge(0, 4), edge(2, 5))
	wantSaid(t, "by hand", h, askOf(20, impl.AskTake, 1, 0), impl.SayYes, edge(2, 5))
}

func TestTakeOfEdgesWithinShards(t *testing.T) {
	h := freeHead()
	for e, shard := range map[impl.Edge]int{edge(0, 3): 1, edge(0, 5): 1, edge(3, 5): 1, edge(1, 4): 2} {
		for _, ends := range []impl.Edge{e, turned(e)} {
			num := []int{4, 8}[shard-1]
			wantTask(t, "within a shard", h, askOf(20, impl.AskAdd, ends.A, ends.B), shard, orderOf(num, impl.OrderAdd, 0, e))
			wantTask(t, "within a shard", h, askOf(20, impl.AskTake, ends.A, ends.B), shard, orderOf(num, impl.OrderTake, 0, e))
		}
	}
	last := changedHead(h, func(h *impl.Head) { h.Nums[0] = impl.MaxNum - 9 })
	wantTask(t, "the last Num", last, askOf(20, impl.AskAdd, 3, 0), 1, orderOf(impl.MaxNum-8, impl.OrderAdd, 0, edge(0, 3)))
}

func TestTakeOfMoves(t *testing.T) {
	h := freeHead()
	for v, owner := range []int{1, 2, 3, 1, 2, 1} {
		for shard := 1; shard <= 3; shard++ {
			a := askOf(20, impl.AskMove, v, shard)
			if shard == owner {
				wantSaid(t, "there already", h, a, impl.SayNo, h.Cuts...)
			} else {
				wantTask(t, "to another shard", h, a, owner, orderOf([]int{4, 8, 1}[owner-1], impl.OrderRelease, v))
			}
		}
	}
}

// asksOn has questions of each Op, of what are vertices and shards and of what are none.
func asksOn(h impl.Head, id int) []impl.Ask {
	list := []impl.Ask{}
	for op := -1; op <= 6; op++ {
		for a := -1; a <= h.N+1; a++ {
			for b := -1; b <= h.N+1; b++ {
				list = append(list, askOf(id, op, a, b))
			}
		}
	}
	return list
}

func wantAskedByWords(t *testing.T, h impl.Head, a impl.Ask) int {
	t.Helper()
	want, told := askedByWords(h, a)
	got := wantAsked(t, "by words", h, a, want, told)
	if told != 0 {
		wantRightHead(t, "by words", got)
	}
	return told
}

func TestTakeOfEveryQuestion(t *testing.T) {
	told := [3]int{}
	for why, h := range rightHeads() {
		for _, a := range asksOn(h, 20) {
			told[wantAskedByWords(t, h, a)]++
		}
		for _, s := range everyFew(h.Said, 9) {
			wantAsked(t, why, h, askOf(s.Id, 1, 0, 1), map[bool]impl.Head{true: h}[s.Id >= 1 && s.Id <= impl.MaxNum], 0)
		}
	}
	if slices.Min(told[:]) < 100 {
		t.Errorf("so many questions were told 0, 1 and 2: %v", told)
	}
}

// head is drawn with what no questions would lead to, too, but it is right.
func (n *drawnNumber) head(verts, shards int) impl.Head {
	h, g := impl.Head{N: verts, Own: n.owners(verts, shards)}, n.graph(verts)
	h.Cuts = slices.DeleteFunc(g.Edges, func(e impl.Edge) bool { return h.Own[e.A] == h.Own[e.B] })
	nums := []int{0, 1, 5, 77, 99990, 99991}
	for range shards {
		h.Labels, h.Nums = append(h.Labels, labelsByWords(n.graph(verts))), append(h.Nums, nums[n.below(len(nums))])
	}
	h.Said = manySaid([]int{0, 1, 5, 79, 80}[n.below(5)])
	return h
}

// question is drawn of the vertices and shards of the head, and of some that are none.
func (n *drawnNumber) question(id int, h impl.Head) impl.Ask {
	a := askOf(id, 1+n.below(4), n.below(h.N), n.below(h.N))
	if a.Op == impl.AskMove {
		a.B = 1 + n.below(len(h.Labels))
	}
	if n.below(12) == 0 {
		a.Op = n.below(7) - 1
	}
	if n.below(12) == 0 {
		a.A = n.below(h.N+3) - 1
	}
	if n.below(12) == 0 {
		a.B = n.below(h.N+3) - 1
	}
	return a
}

// task is drawn such that orders fit questions or do not; AskTogether has none.
func (n *drawnNumber) task(h impl.Head) impl.Task {
	a, shard, o := n.question(1+n.below(999), h), 1+n.below(len(h.Labels)), n.command(h.N)
	if a.Op == impl.AskTogether || n.below(2) == 0 {
		a.Op = impl.AskMove
	}
	if a.Op == impl.AskMove && n.below(4) > 0 {
		o = orderOf(1, impl.OrderRelease, n.below(h.N))
	}
	o.Num = h.Nums[shard-1] + 1
	return taskOf(a, shard, o)
}

func TestTakeOfDrawnHeads(t *testing.T) {
	drawn, told := drawnNumber(121), [3]int{}
	for at := range 6000 {
		h := drawn.head(1+at%12, 1+at/12%3)
		if at%7 == 0 {
			h.Task = drawn.task(h)
		}
		wantHeadOk(t, "drawn", h, true)
		for range 4 {
			told[wantAskedByWords(t, h, drawn.question(1+drawn.below(1200), h))]++
		}
	}
	if slices.Min(told[:]) < 1000 {
		t.Errorf("so many questions were told 0, 1 and 2: %v", told)
	}
}

func TestHearRefusesWrongHeads(t *testing.T) {
	for why, h := range wrongHeads() {
		for shard := range 4 {
			for _, num := range []int{1, 4, h.Task.Order.Num} {
				wantHeard(t, why, h, shard, answerOf(num, true, nil, countTo(min(max(h.N, 0), 20))...), h, 0)
				wantHeard(t, why, h, h.Task.Shard, answerOf(num, true, nil, countTo(6)...), h, 0)
			}
		}
	}
}

func TestHearRefusesWrongAnswers(t *testing.T) {
	for why, cases := range wrongAnswers() {
		for _, c := range cases {
			h, _ := impl.HeadNew(impl.MaxVerts, 2)
			if n := c.n; n >= 1 && n <= impl.MaxVerts {
				h, _ = impl.HeadNew(n, 2)
			}
			h.Task = taskOf(askOf(1, impl.AskMove, 0, 2), 1, orderOf(1, impl.OrderRelease, 0))
			wantHeadOk(t, why, h, true)
			wantHeard(t, why, h, 1, c.what, h, 0)
		}
	}
	for n := 1; n <= impl.MaxVerts; n++ {
		if n != 6 {
			wantHeard(t, "of other vertices", addingHead(), 1, answerOf(4, true, nil, countTo(n)...), addingHead(), 0)
		}
	}
	wantHeard(t, "nothing", addingHead(), 1, impl.Answer{}, addingHead(), 0)
}

func TestHearRefusesOtherAnswers(t *testing.T) {
	right := answerOf(4, true, nil, 0, 1, 2, 0, 4, 0)
	for _, shard := range append(numbersOutOf(1, impl.MaxShards), 0, 2, 3) {
		wantHeard(t, "of another shard", addingHead(), shard, right, addingHead(), 0)
		wantHeard(t, "of another shard, with its own Num", addingHead(), shard, answerOf(8, true, nil, countTo(6)...), addingHead(), 0)
	}
	for _, num := range []int{1, 2, 3, 5, 6, 8, impl.MaxNum} {
		wantHeard(t, "of another Num", addingHead(), 1, answerOf(num, true, nil, 0, 1, 2, 0, 4, 0), addingHead(), 0)
	}
	for shard := -1; shard <= 4; shard++ {
		for num := range 10 {
			wantHeard(t, "without a Task", freeHead(), shard, answerOf(num, true, nil, countTo(6)...), freeHead(), 0)
		}
	}
}

// wantEnded is for answers behind which the question is Said: but for Nums and Labels of the shard, and what is
// told here, the head is what it was.
func wantEnded(t *testing.T, why string, h impl.Head, a impl.Answer, say int, own []int, cuts ...impl.Edge) {
	t.Helper()
	shard, ask := h.Task.Shard, h.Task.Ask
	want := changedHead(withSaid(h, ask, say, cuts...), func(h *impl.Head) {
		h.Own, h.Nums[shard-1], h.Labels[shard-1] = own, a.Num, a.Labels
	})
	got := wantHeard(t, why, h, shard, a, want, 1)
	wantReply(t, why, got, ask.Id, say, true)
	wantRightHead(t, why, got)
	wantHeard(t, why+", heard again", got, shard, a, got, 0)
}

// wantAccepting is for answers behind which the Task is OrderAccept of the edges.
func wantAccepting(t *testing.T, why string, h impl.Head, a impl.Answer, own []int, cuts []impl.Edge, shard, num int, edges ...impl.Edge) impl.Head {
	t.Helper()
	want := changedHead(h, func(h *impl.Head) {
		h.Own, h.Cuts, h.Nums[h.Task.Shard-1], h.Labels[h.Task.Shard-1] = own, cuts, a.Num, a.Labels
		h.Task = taskOf(h.Task.Ask, shard, orderOf(num, impl.OrderAccept, 0, edges...))
	})
	got := wantHeard(t, why, h, h.Task.Shard, a, want, 2)
	wantReply(t, why, got, h.Task.Ask.Id, 0, false)
	wantRightHead(t, why, got)
	wantHeard(t, why+", heard again", got, h.Task.Shard, a, got, 0)
	return got
}

func TestHearOfAddAndTake(t *testing.T) {
	taking := busyHead(impl.AskTake, 4, 1, 2, orderOf(0, impl.OrderTake, 0, edge(1, 4)))
	was := freeHead()
	wantEnded(t, "added", addingHead(), answerOf(4, true, nil, 0, 1, 2, 0, 4, 0), impl.SayYes, was.Own, was.Cuts...)
	wantEnded(t, "not added", addingHead(), answerOf(4, false, nil, 0, 1, 2, 0, 4, 5), impl.SayNo, was.Own, was.Cuts...)
	wantEnded(t, "taken", taking, answerOf(8, true, nil, 0, 1, 2, 3, 4, 5), impl.SayYes, was.Own, was.Cuts...)
	wantEnded(t, "not taken", taking, answerOf(8, false, nil, 0, 1, 2, 3, 1, 5), impl.SayNo, was.Own, was.Cuts...)
	for _, edges := range [][]impl.Edge{{edge(0, 1)}, {edge(0, 3)}, allEdges(6)} { // whose Edges are nobody's
		wantEnded(t, "added, and Edges", addingHead(), answerOf(4, true, edges, countTo(6)...), impl.SayYes, was.Own, was.Cuts...)
		wantEnded(t, "not taken, and Edges", taking, answerOf(8, false, edges, countTo(6)...), impl.SayNo, was.Own, was.Cuts...)
	}
}

func TestHearOfMovesBehindRelease(t *testing.T) {
	alone, e := countTo(6), edge
	for _, said := range []bool{true, false} { // Ok is not looked at
		wantEnded(t, "no edges", movingHead(5, 2), answerOf(4, said, nil, 0, 1, 2, 0, 4, 5), impl.SayYes, []int{1, 2, 3, 1, 2, 2}, e(0, 1), e(2, 5))
		wantEnded(t, "none inside", movingHead(3, 2), answerOf(4, said, []impl.Edge{e(0, 3)}, alone...), impl.SayYes, []int{1, 2, 3, 2, 2, 1}, e(0, 1), e(0, 3), e(2, 5))
		wantEnded(t, "none inside, of another shard", movingHead(4, 1), answerOf(8, said, []impl.Edge{e(1, 4)}, alone...), impl.SayYes, []int{1, 2, 3, 1, 1, 1}, e(0, 1), e(1, 4), e(2, 5))
		wantAccepting(t, "no edges, but a cut comes inside", movingHead(5, 3), answerOf(4, said, nil, 0, 1, 2, 0, 4, 5),
			[]int{1, 2, 3, 1, 2, 3}, []impl.Edge{e(0, 1)}, 3, 1, e(2, 5))
		wantAccepting(t, "edges, and a cut comes inside", movingHead(0, 2), answerOf(4, said, []impl.Edge{e(0, 3)}, alone...),
			[]int{2, 2, 3, 1, 2, 1}, []impl.Edge{e(0, 3), e(2, 5)}, 2, 8, e(0, 1))
		wantAccepting(t, "an edge of the answer comes inside", movingHead(3, 2), answerOf(4, said, []impl.Edge{e(0, 3), e(1, 3)}, alone...),
			[]int{1, 2, 3, 2, 2, 1}, []impl.Edge{e(0, 1), e(0, 3), e(2, 5)}, 2, 8, e(1, 3))
		wantAccepting(t, "edges and cuts come inside", movingHead(1, 1), answerOf(8, said, []impl.Edge{e(1, 3), e(1, 4), e(1, 5)}, alone...),
			[]int{1, 1, 3, 1, 2, 1}, []impl.Edge{e(1, 4), e(2, 5)}, 1, 4, e(0, 1), e(1, 3), e(1, 5))
		for _, edges := range [][]impl.Edge{{e(0, 1)}, {e(0, 1), e(0, 3)}, {e(0, 3), e(2, 5)}, {e(0, 1), e(2, 5)}, allEdges(6)} {
			wantEnded(t, "an edge that is in Cuts already", movingHead(0, 2), answerOf(4, said, edges, alone...), impl.SayBad, freeHead().Own, e(0, 1), e(2, 5))
		}
	}
}

func TestHearOfMovesBehindAccept(t *testing.T) {
	was := acceptingHead()
	for _, said := range []bool{true, false} {
		for _, edges := range [][]impl.Edge{nil, {edge(0, 3)}, {edge(0, 1)}, allEdges(6)} {
			wantEnded(t, "accepted", was, answerOf(1, said, edges, 0, 1, 1, 3, 4, 5), impl.SayYes, was.Own, was.Cuts...)
		}
	}
}

// A move that goes all its way: what was asked is Said behind the second answer, and not ahead of it.
func TestAMoveByHand(t *testing.T) {
	ask, e := askOf(31, impl.AskMove, 0, 2), edge
	h := wantTask(t, "moves", freeHead(), ask, 1, orderOf(4, impl.OrderRelease, 0))
	h = wantAccepting(t, "released", h, answerOf(4, true, []impl.Edge{e(0, 3)}, countTo(6)...), []int{2, 2, 3, 1, 2, 1}, []impl.Edge{e(0, 3), e(2, 5)}, 2, 8, e(0, 1))
	wantAsked(t, "asked meanwhile", h, ask, h, 0)
	wantAsked(t, "another one meanwhile", h, askOf(32, impl.AskTogether, 0, 1), h, 0)
	wantHeard(t, "the right Num of the wrong shard", h, 1, answerOf(8, true, nil, countTo(6)...), h, 0)
	wantEnded(t, "accepted", h, answerOf(8, true, nil, 0, 0, 2, 3, 0, 5), impl.SayYes, []int{2, 2, 3, 1, 2, 1}, e(0, 3), e(2, 5))
}

// Of a Task that no question makes the document says nothing: it is SayBad. Where a move has an A that is no
// vertex, nobody has it; where its B is no shard, A is had by B all the same, and the head is not right.
func TestHearOfTasksThatNoQuestionMakes(t *testing.T) {
	was, labels := freeHead(), []int{0, 1, 1, 3, 4, 5}
	for _, op := range []int{math.MinInt, -1, 0, 5, math.MaxInt} {
		for _, o := range commandsOn(6, 0, 3) {
			wantEnded(t, "an Op that is none", busyHead(op, 0, 1, 1, o), answerOf(4, true, nil, labels...), impl.SayBad, was.Own, was.Cuts...)
		}
	}
	for _, op := range []int{impl.OrderAdd, impl.OrderTake} {
		h := busyHead(impl.AskMove, 3, 2, 1, orderOf(0, op, 0, edge(0, 5)))
		wantEnded(t, "a move by another order", h, answerOf(4, true, []impl.Edge{edge(0, 3)}, labels...), impl.SayBad, was.Own, was.Cuts...)
	}
	release := orderOf(0, impl.OrderRelease, 3)
	for _, none := range numbersOutOf(0, 5) {
		h := busyHead(impl.AskMove, none, 2, 1, release)
		wantEnded(t, "a move of what is no vertex", h, answerOf(4, true, nil, labels...), impl.SayYes, was.Own, was.Cuts...)
		wantAccepting(t, "a move of what is no vertex", h, answerOf(4, true, []impl.Edge{edge(1, 4)}, labels...), was.Own, was.Cuts, 2, 8, edge(1, 4))
	}
	for _, none := range append(numbersOutOf(1, 3), 0) {
		h := busyHead(impl.AskMove, 3, none, 1, release)
		a := answerOf(4, true, []impl.Edge{edge(0, 3)}, labels...)
		want, told := heardByWords(h, 1, a)
		if got := wantHeard(t, "a move to no shard", h, 1, a, want, told); got.Own[3] != none || told != 1 || impl.HeadOk(got) {
			t.Fatalf("a move to the shard %d leads to %v", none, got)
		}
	}
}

// What the document's words lead to where a limit is met that no life comes to.
func TestHearAtTheLimits(t *testing.T) {
	full := changedHead(addingHead(), func(h *impl.Head) { h.Said = manySaid(impl.MaxAsks) })
	late := changedHead(addingHead(), func(h *impl.Head) { h.Nums[0], h.Task.Order.Num = impl.MaxNum-9, impl.MaxNum-8 })
	for _, h := range []impl.Head{full, late} {
		wantHeadOk(t, "ahead of it", h, true)
		a := answerOf(h.Task.Order.Num, true, nil, countTo(6)...)
		want, _ := heardByWords(h, 1, a)
		wantHeadOk(t, "behind it", wantHeard(t, "at a limit", h, 1, a, want, 1), false)
	}
}

func TestHearOfDrawnHeads(t *testing.T) {
	drawn, told := drawnNumber(122), [3]int{}
	for at := range 8000 {
		h := drawn.head(1+at%12, 1+at/12%3)
		if at%9 > 0 {
			h.Task = drawn.task(h)
		}
		wantHeadOk(t, "drawn", h, true)
		for range 3 {
			shard, a := h.Task.Shard, drawn.heard(h)
			if drawn.below(9) == 0 {
				shard = drawn.below(5)
			}
			want, code := heardByWords(h, shard, a)
			wantHeard(t, "drawn", h, shard, a, want, code)
			told[code]++
		}
	}
	if slices.Min(told[:]) < 1000 {
		t.Errorf("so many answers were told 0, 1 and 2: %v", told)
	}
}

// heard is an answer for the head's order, mostly without edges that it has in Cuts.
func (n *drawnNumber) heard(h impl.Head) impl.Answer {
	a := n.reply(h.N)
	if n.below(9) > 0 {
		a.Num = h.Task.Order.Num
	}
	if n.below(5) > 0 {
		a.Edges = slices.DeleteFunc(a.Edges, func(e impl.Edge) bool { return slices.Contains(h.Cuts, e) })
	}
	if n.below(2) == 0 {
		a.Edges = a.Edges[:min(len(a.Edges), 2)]
	}
	return a
}

func TestReplyOf(t *testing.T) {
	for _, h := range []impl.Head{freeHead(), addingHead()} {
		wantReply(t, "yes", h, 10, impl.SayYes, true)
		wantReply(t, "bad", h, 4, impl.SayBad, true)
		wantReply(t, "no", h, 12, impl.SayNo, true)
		for _, id := range append(numbersOutOf(1, impl.MaxNum), 0, 1, 11, 20) { // 20 is the Task's
			wantReply(t, "not Said", h, id, 0, false)
		}
	}
	wantReply(t, "of nothing", impl.Head{}, 0, 0, false)
	full := changedHead(freeHead(), func(h *impl.Head) { h.Said = manySaid(impl.MaxAsks) })
	for at := range impl.MaxAsks {
		wantReply(t, "of many", full, 1000+at, 1+at%3, true)
	}
	for _, h := range wrongHeads() { // no right head is asked for
		for _, s := range h.Said {
			say, found := replyByWords(h, s.Id)
			wantReply(t, "of a wrong head", h, s.Id, say, found)
		}
		wantReply(t, "of a wrong head", h, 5000, 0, false)
	}
}

// life is a head and its shards, and one graph beside them, which says what they should say.
type life struct {
	head   impl.Head
	shards []impl.Shard
	own    []int
	graph  []impl.Edge
	past   []pastAnswer
}

type pastAnswer struct {
	shard  int
	answer impl.Answer
}

func newLife(n, shards int) *life {
	l := &life{}
	l.head, _ = impl.HeadNew(n, shards)
	l.own = slices.Clone(l.head.Own)
	for id := 1; id <= shards; id++ {
		s, _ := impl.ShardNew(id, n)
		l.shards = append(l.shards, s)
	}
	return l
}

func (l *life) copyOf() *life {
	return &life{headWithin(l.head), slices.Clone(l.shards), slices.Clone(l.own), slices.Clone(l.graph), slices.Clone(l.past)}
}

// sayOf is what one graph says, which changes by it.
func (l *life) sayOf(a impl.Ask) int {
	if senselessByWords(l.head, a) {
		return impl.SayBad
	}
	yes, e := false, edge(min(a.A, a.B), max(a.A, a.B))
	switch a.Op {
	case impl.AskTogether:
		labels := labelsByWords(graphOf(l.head.N, l.graph...))
		yes = labels[a.A] == labels[a.B]
	case impl.AskMove:
		yes = l.own[a.A] != a.B
		l.own[a.A] = a.B
	default:
		l.graph, yes = changedByWords(l.head.N, l.graph, e, a.Op == impl.AskAdd)
	}
	return sayByWords(yes)
}

// wantKept asks that each edge of the graph is in one place alone: the web of the shard that has its ends, the cuts,
// or, while it is moved, the order to accept it.
func (l *life) wantKept(t *testing.T, want []impl.Edge) {
	t.Helper()
	lists := [][]impl.Edge{}
	for _, s := range l.shards {
		lists = append(lists, impl.Owned(s))
	}
	if l.head.Task.Order.Op == impl.OrderAccept {
		lists = append(lists, l.head.Task.Order.Edges)
	}
	wantEdges(t, "of a life", lists, l.head.Cuts, want...)
}

// wantAtRest asks of a head that is not Busy that it and its shards tell what the graph tells.
func (l *life) wantAtRest(t *testing.T) {
	t.Helper()
	l.wantKept(t, l.graph)
	wantWhole(t, "of a life", wholeCase{l.head.N, l.head.Labels, l.head.Cuts}, labelsByWords(graphOf(l.head.N, l.graph...))...)
	if impl.Busy(l.head) || !slices.Equal(l.head.Own, l.own) {
		t.Fatalf("the head %v should be at rest, with the owners %v", l.head, l.own)
	}
	for at, s := range l.shards {
		if l.head.Nums[at] != s.Last.Num || !slices.Equal(l.head.Labels[at], impl.WebLabels(s.Web)) {
			t.Fatalf("of the shard %v the head has %v", s, l.head)
		}
		for _, e := range impl.Owned(s) {
			if l.own[e.A] != s.Id || l.own[e.B] != s.Id {
				t.Fatalf("the shard %d has the edge %v; the owners are %v", s.Id, e, l.own)
			}
		}
	}
}

// obey has the shard of the Task obey, told more than once, and tells what it answers.
func (l *life) obey(t *testing.T) impl.Answer {
	t.Helper()
	task := l.head.Task
	s, a, code := impl.Obey(l.shards[task.Shard-1], task.Order)
	again, same, twice := impl.Obey(s, task.Order)
	if code != 0 || twice != 0 || !sameAnswer(a, same) || !sameShard(s, again) {
		t.Fatalf("the shard %v is told %v, and obeys with %d, then %d", l.shards[task.Shard-1], task.Order, code, twice)
	}
	l.shards[task.Shard-1] = s
	return a
}

// wantDeaf has all that must change nothing while the head waits: questions, late answers, answers of other shards.
func (l *life) wantDeaf(t *testing.T, a impl.Answer) {
	t.Helper()
	h := l.head
	wantAsked(t, "asked again", h, h.Task.Ask, h, 0)
	wantAsked(t, "asked something else", h, askOf(h.Task.Ask.Id+1, impl.AskTogether, 0, 0), h, 0)
	for shard := range 5 {
		if shard != h.Task.Shard {
			wantHeard(t, "of another shard", h, shard, a, h, 0)
		}
	}
	for _, p := range l.past[max(0, len(l.past)-4):] {
		wantHeard(t, "late", h, p.shard, p.answer, h, 0)
	}
}

// wantAnswered asks, and has shards obey until the question is Said, as one graph says it.
func (l *life) wantAnswered(t *testing.T, a impl.Ask) int {
	t.Helper()
	was, before := l.head.Said, l.graph
	want, orders := l.sayOf(a), 0
	head, told := impl.Take(l.head, a)
	for l.head = head; told == 2; l.head = head {
		if orders++; orders > 2 || !impl.Busy(l.head) || !slices.Equal(l.head.Said, was) {
			t.Fatalf("for %v there are %d orders; the head is %v", a, orders, l.head)
		}
		wantRightHead(t, "waiting", l.head)
		l.wantKept(t, before)
		answer, shard := l.obey(t), l.head.Task.Shard
		l.wantDeaf(t, answer)
		l.past = append(l.past, pastAnswer{shard, answer})
		head, told = impl.Hear(l.head, shard, answer)
	}
	if told != 1 || !slices.Equal(l.head.Said, append(slices.Clone(was), saidOf(a, want))) {
		t.Fatalf("%v is told %d, and the head is %v; it should say %d", a, told, l.head, want)
	}
	wantRightHead(t, "at rest", l.head)
	wantReply(t, "of a life", l.head, a.Id, want, true)
	wantAsked(t, "asked again", l.head, a, l.head, 0)
	wantAsked(t, "asked again, another one", l.head, askOf(a.Id, 1+a.Op%4, a.B, a.A), l.head, 0)
	for _, p := range l.past[max(0, len(l.past)-2):] {
		wantHeard(t, "at rest", l.head, p.shard, p.answer, l.head, 0)
	}
	return orders
}

// lively are questions by which edges come more often than they go, and much is moved.
func (n *drawnNumber) lively(id int, l *life) impl.Ask {
	verts := l.head.N
	switch kind := n.below(8); {
	case kind < 2:
		return askOf(id, impl.AskMove, n.below(verts), 1+n.below(len(l.shards)))
	case kind < 4:
		return askOf(id, impl.AskAdd, n.below(verts), n.below(verts))
	case kind < 5 && len(l.graph) > 0:
		e := l.graph[n.below(len(l.graph))]
		return askOf(id, 1+n.below(2), e.B, e.A)
	}
	return n.question(id, l.head)
}

func TestHeadsThatLive(t *testing.T) {
	drawn, says, orders := drawnNumber(123), [5][4]int{}, [3]int{}
	for at := range 72 {
		l := newLife(1+at%12, 1+at/12%3)
		ids := mixed(&drawn, countTo(500)[1:])
		for _, id := range ids[:impl.MaxAsks] {
			a := drawn.lively(id, l)
			orders[l.wantAnswered(t, a)]++
			l.wantAtRest(t)
			say, _ := impl.ReplyOf(l.head, id)
			says[min(max(a.Op, 0), 4)][say]++
		}
		for op := range 6 {
			wantAsked(t, "MaxAsks are Said", l.head, askOf(501, op, 0, 1), l.head, 0)
		}
	}
	for op := 1; op <= 4; op++ {
		if says[op][impl.SayYes] < 100 || says[op][impl.SayNo] < 100 || says[op][impl.SayBad] < 20 {
			t.Errorf("of the Op %d yes, no and bad were said %v times", op, says[op][1:])
		}
	}
	if slices.Min(orders[:]) < 100 {
		t.Errorf("questions with no, one and two orders: %v", orders)
	}
}

// A head whose Said is put away goes on: far more is asked than one head may say.
func TestHeadsThatLiveLong(t *testing.T) {
	drawn, two := drawnNumber(124), 0
	for _, n := range []int{3, 7, impl.MaxVerts} {
		l := newLife(n, impl.MaxShards)
		for id := 1; id <= 900; id++ {
			if len(l.head.Said) == impl.MaxAsks {
				l.head.Said, l.past = nil, nil
			}
			if l.wantAnswered(t, drawn.lively(id, l)) == 2 {
				two++
			}
			l.wantAtRest(t)
		}
	}
	if two < 300 {
		t.Errorf("only %d moves let accept", two)
	}
}

// Each row of four questions that change something, of three vertices and two shards.
func TestHeadsOfEveryShortLife(t *testing.T) {
	asks := []impl.Ask{}
	for _, e := range allEdges(3) {
		asks = append(asks, askOf(0, impl.AskAdd, e.A, e.B), askOf(0, impl.AskTake, e.B, e.A))
	}
	for v := range 3 {
		asks = append(asks, askOf(0, impl.AskMove, v, 1), askOf(0, impl.AskMove, v, 2))
	}
	goOn(t, newLife(3, 2), asks, 4)
}

func goOn(t *testing.T, l *life, asks []impl.Ask, more int) {
	l.wantAtRest(t)
	if more == 0 {
		return
	}
	for _, a := range asks {
		next := l.copyOf()
		a.Id = more
		next.wantAnswered(t, a)
		goOn(t, next, asks, more-1)
	}
}

func wantHeadUntouched(t *testing.T, h, was impl.Head) {
	t.Helper()
	e := edge(77, 78)
	wantListUntouched(t, h.Own, was.Own, 77)
	wantListUntouched(t, h.Nums, was.Nums, 77)
	wantListUntouched(t, h.Cuts, was.Cuts, e)
	wantListUntouched(t, h.Task.Order.Edges, was.Task.Order.Edges, e)
	wantListUntouched(t, h.Said, was.Said, saidOf(askOf(77, 77, 77, 77), 77))
	wantListsUntouched(t, h.Labels, was.Labels, 77)
	if !sameHead(h, was) {
		t.Fatalf("the head is now %v; it was %v", h, was)
	}
}

// wantHeadsApart also asks that no two lists of one head share memory; beside and edges are of an answer that was handed in.
func wantHeadsApart(t *testing.T, beside []int, edges []impl.Edge, heads ...impl.Head) {
	t.Helper()
	numbers, lists, cuts, said := [][]int{beside}, [][][]int{}, [][]impl.Edge{edges}, [][]impl.Said{}
	for _, h := range heads {
		numbers = append(append(numbers, h.Own, h.Nums), h.Labels...)
		lists, cuts, said = append(lists, h.Labels), append(cuts, h.Cuts, h.Task.Order.Edges), append(said, h.Said)
	}
	wantApart(t, "numbers", numbers...)
	wantApart(t, "lists of labels", lists...)
	wantApart(t, "edges", cuts...)
	wantApart(t, "what is Said", said...)
}

func wantAskedApart(t *testing.T, was impl.Head, a impl.Ask) {
	t.Helper()
	h := headWithin(was)
	one, _ := impl.Take(h, a)
	two, _ := impl.Take(h, a)
	if !sameHead(one, two) {
		t.Fatalf("Take(%v, %v) = %v, then %v", was, a, one, two)
	}
	wantHeadsApart(t, nil, nil, h, one, two)
	impl.HeadOk(h)
	impl.Busy(h)
	impl.ReplyOf(h, a.Id)
	spoilHead(one)
	wantHeadUntouched(t, h, was)
}

func wantHeardApart(t *testing.T, was impl.Head, shard int, answer impl.Answer) {
	t.Helper()
	h, a, e := headWithin(was), answer, edge(77, 78)
	a.Edges, a.Labels = within(answer.Edges, e), within(answer.Labels, 77)
	one, _ := impl.Hear(h, shard, a)
	two, _ := impl.Hear(h, shard, a)
	if !sameHead(one, two) {
		t.Fatalf("Hear(%v, %d, %v) = %v, then %v", was, shard, answer, one, two)
	}
	wantHeadsApart(t, a.Labels, a.Edges, h, one, two)
	spoilHead(one)
	wantHeadUntouched(t, h, was)
	wantListUntouched(t, a.Edges, answer.Edges, e)
	wantListUntouched(t, a.Labels, answer.Labels, 77)
}

// spoilHead writes over an answer, and into the room behind its lists.
func spoilHead(h impl.Head) {
	for _, labels := range h.Labels {
		spoil(labels, 99)
	}
	spoil(h.Labels, nil)
	spoil(h.Own, 99)
	spoil(h.Nums, 99)
	spoil(h.Cuts, edge(99, 99))
	spoil(h.Task.Order.Edges, edge(99, 99))
	spoil(h.Said, impl.Said{})
}

func TestHeadsLeaveArgumentsAlone(t *testing.T) {
	drawn := drawnNumber(125)
	for _, list := range []map[string]impl.Head{rightHeads(), wrongHeads()} {
		for _, h := range list {
			wantAskedApart(t, h, askOf(21, impl.AskMove, 0, 2))
			wantHeardApart(t, h, h.Task.Shard, answerOf(max(h.Task.Order.Num, 1), true, []impl.Edge{edge(0, 3)}, countTo(6)...))
		}
	}
	for _, a := range everyFew(asksOn(freeHead(), 20), 3) {
		wantAskedApart(t, freeHead(), a)
	}
	for at := range 1200 {
		h := drawn.head(1+at%12, 1+at/12%3)
		h.Said = h.Said[:min(len(h.Said), 7)]
		wantAskedApart(t, h, drawn.question(1+drawn.below(1200), h))
		h.Task = drawn.task(h)
		wantAskedApart(t, h, drawn.question(1+drawn.below(1200), h))
		wantHeardApart(t, h, h.Task.Shard, drawn.heard(h))
	}
}

func TestNewHeadsAreKeptNowhere(t *testing.T) {
	for range 3 {
		h, _ := impl.HeadNew(5, 3)
		other, _ := impl.HeadNew(5, 3)
		wantHeadsApart(t, nil, nil, h, other)
		spoilHead(h)
		if want := newHeadByHand(5, 3); !sameHead(other, want) {
			t.Fatalf("the new head is now %v", other)
		}
	}
}
