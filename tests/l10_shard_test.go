package tests

import (
	"math"
	"slices"
	"sync"
	"testing"

	"loop.example/g00130/impl"
)

func shardOf(id int, w impl.Web, last impl.Answer) impl.Shard {
	return impl.Shard{Id: id, Web: w, Last: last}
}

// freshShard has this web and was told nothing yet; lastShard was, by an order of this Num.
func freshShard(n int, edges ...impl.Ledge) impl.Shard {
	return shardOf(1, webOf(n, edges...), impl.Answer{})
}

func lastShard(id, num int, w impl.Web) impl.Shard {
	return shardOf(id, w, answerOf(num, true, nil, labelsByWords(graphByWords(w))...))
}

func sameShard(a, b impl.Shard) bool {
	return a.Id == b.Id && sameWeb(a.Web, b.Web) && sameAnswer(a.Last, b.Last)
}

func shardOkByWords(s impl.Shard) bool {
	if s.Id < 1 || s.Id > 3 || !webOkByWords(s.Web) {
		return false
	}
	labels := labelsByWords(graphByWords(s.Web))
	return sameAnswer(s.Last, impl.Answer{}) || answerOkByWords(s.Web.N, s.Last) && slices.Equal(s.Last.Labels, labels)
}

func hasEnd(e impl.Edge, v int) bool { return e.A == v || e.B == v }

// doneByWords is what a right order makes of a right web, whether it is Ok, and the Edges of the answer.
func doneByWords(w impl.Web, o impl.Order) (impl.Web, bool, []impl.Edge) {
	said, released := true, []impl.Edge{}
	for _, e := range allEdges(w.N) { // the edges of an order ascend, as these do
		there, asked := slices.Contains(graphByWords(w).Edges, e), slices.Contains(o.Edges, e)
		switch {
		case o.Op == impl.OrderRelease && there && hasEnd(e, o.V):
			w, _, _ = takenByWords(w, e)
			released = append(released, e)
		case o.Op == impl.OrderTake && there && asked:
			w, _, _ = takenByWords(w, e)
		case o.Op != impl.OrderTake && !there && asked:
			w = addedByWords(w, e)
		case asked:
			said = false
		}
	}
	return w, said, released
}

func obeyedByWords(s impl.Shard, o impl.Order) (impl.Shard, impl.Answer, int) {
	if !shardOkByWords(s) || !orderOkByWords(s.Web.N, o) || o.Num != s.Last.Num && o.Num != s.Last.Num+1 {
		return impl.Shard{}, impl.Answer{}, 1
	}
	if o.Num == s.Last.Num {
		return s, s.Last, 0
	}
	w, said, released := doneByWords(s.Web, o)
	a := answerOf(o.Num, said, released, labelsByWords(graphByWords(w))...)
	return shardOf(s.Id, w, a), a, 0
}

func wantObeyed(t *testing.T, why string, s impl.Shard, o impl.Order, want impl.Shard, answer impl.Answer) impl.Shard {
	t.Helper()
	got, a, code := impl.Obey(s, o)
	if code != 0 || !sameShard(got, want) || !sameAnswer(a, answer) {
		t.Fatalf("%s: Obey(%v, %v) = %v, %v, %d; want %v, %v, 0", why, s, o, got, a, code, want, answer)
	}
	return got
}

func wantNotObeyed(t *testing.T, why string, s impl.Shard, o impl.Order) {
	t.Helper()
	if got, a, code := impl.Obey(s, o); code != 1 || !sameShard(got, impl.Shard{}) || !sameAnswer(a, impl.Answer{}) {
		t.Fatalf("%s: Obey(%v, %v) = %v, %v, %d; want nothing, nothing, 1", why, s, o, got, a, code)
	}
}

// wantToldAgain holds a shard to what it told last, whatever is asked with that Num.
func wantToldAgain(t *testing.T, s impl.Shard, o impl.Order) {
	t.Helper()
	for range 3 {
		s = wantObeyed(t, "told again", s, o, s, s.Last)
	}
}

// wantDone is for orders that come next; the answer is Last, and the same one told again changes nothing.
func wantDone(t *testing.T, why string, s impl.Shard, o impl.Order, w impl.Web, said bool, released ...impl.Edge) impl.Shard {
	t.Helper()
	a := answerOf(o.Num, said, released, labelsByWords(graphByWords(w))...)
	got := wantObeyed(t, why, s, o, shardOf(s.Id, w, a), a)
	if !impl.ShardOk(got) {
		t.Fatalf("%s: Obey(%v, %v) makes the shard %v, which is not right", why, s, o, got)
	}
	wantToldAgain(t, got, o)
	return got
}

func wantDoneByWords(t *testing.T, why string, s impl.Shard, o impl.Order) impl.Shard {
	t.Helper()
	w, said, released := doneByWords(s.Web, o)
	return wantDone(t, why, s, o, w, said, released...)
}

func TestShardNew(t *testing.T) {
	for _, id := range append(numbersOutOf(1, impl.MaxShards), 1, 2, 3) {
		for _, n := range append(numbersOutOf(1, impl.MaxVerts), countTo(impl.MaxVerts+1)...) {
			s, ok := impl.ShardNew(id, n)
			right := id >= 1 && id <= 3 && n >= 1 && n <= 12
			want := impl.Shard{}
			if right {
				want = shardOf(id, webOf(n), impl.Answer{})
			}
			if ok != right || !sameShard(s, want) || impl.ShardOk(s) != right {
				t.Errorf("ShardNew(%d, %d) = %v, %v; want %v, %v", id, n, s, ok, want, right)
			}
			if owned := impl.Owned(s); len(owned) > 0 {
				t.Errorf("the new shard %v has the edges %v", s, owned)
			}
		}
	}
}

func wantShardOk(t *testing.T, why string, s impl.Shard, want bool) {
	t.Helper()
	if shardOkByWords(s) != want {
		t.Fatalf("%s: the test has the wrong shard %v", why, s)
	}
	if impl.ShardOk(s) != want {
		t.Errorf("%s: the shard %v is right: %v", why, s, !want)
	}
}

func TestShardOkByHand(t *testing.T) {
	two := webOf(3, inForest(0, 2, 0))
	for why, s := range map[string]impl.Shard{
		"no edges, Last zero":               freshShard(3),
		"of one vertex":                     freshShard(1),
		"of MaxVerts":                       freshShard(impl.MaxVerts),
		"the last Id":                       shardOf(impl.MaxShards, two, impl.Answer{}),
		"edges, and Last zero":              shardOf(2, two, impl.Answer{}),
		"Last zero, with lists without any": shardOf(2, two, impl.Answer{Edges: []impl.Edge{}, Labels: []int{}}),
		"Last right":                        shardOf(2, two, answerOf(1, true, nil, 0, 1, 0)),
		"Last not Ok":                       shardOf(2, two, answerOf(1, false, nil, 0, 1, 0)),
		"the greatest Num":                  shardOf(2, two, answerOf(impl.MaxNum, true, nil, 0, 1, 0)),
		"Edges that the shard has not":      shardOf(2, two, answerOf(9, true, []impl.Edge{edge(0, 1), edge(1, 2)}, 0, 1, 0)),
		"Edges that the shard has":          shardOf(2, two, answerOf(9, false, []impl.Edge{edge(0, 2)}, 0, 1, 0)),
		"labels by several edges":           shardOf(1, webOf(4, beside(0, 1, 0), inForest(0, 3, 1), inForest(1, 3, 0)), answerOf(7, true, nil, 0, 0, 2, 0)),
	} {
		wantShardOk(t, why, s, true)
	}
}

// wrongShards break one rule each.
func wrongShards() map[string]impl.Shard {
	two, both := webOf(3, inForest(0, 2, 0)), []impl.Edge{edge(0, 1), edge(1, 2)}
	list := map[string]impl.Shard{
		"nothing":                        {},
		"Last zero but for Num":          shardOf(1, two, impl.Answer{Num: 1}),
		"Last zero but for Ok":           shardOf(1, two, impl.Answer{Ok: true}),
		"Last zero but for Edges":        shardOf(1, two, impl.Answer{Edges: both}),
		"Last zero but for Labels":       shardOf(1, two, impl.Answer{Labels: []int{0, 1, 0}}),
		"Last right but for Num":         shardOf(1, two, answerOf(0, true, both, 0, 1, 0)),
		"Last of a Num below 0":          shardOf(1, two, answerOf(-1, true, both, 0, 1, 0)),
		"Last of a Num above MaxNum":     shardOf(1, two, answerOf(impl.MaxNum+1, true, both, 0, 1, 0)),
		"Last of a Num far below":        shardOf(1, two, answerOf(math.MinInt, true, both, 0, 1, 0)),
		"Last of a Num far above":        shardOf(1, two, answerOf(math.MaxInt, true, both, 0, 1, 0)),
		"Last without Labels":            shardOf(1, two, answerOf(1, true, both)),
		"Labels of no edges":             shardOf(1, two, answerOf(1, true, both, 0, 1, 2)),
		"Labels of more edges":           shardOf(1, two, answerOf(1, true, both, 0, 0, 0)),
		"Labels of other edges":          shardOf(1, two, answerOf(1, true, both, 0, 0, 2)),
		"Labels of another edge":         shardOf(1, two, answerOf(1, true, both, 0, 1, 1)),
		"Labels that are none":           shardOf(1, two, answerOf(1, true, both, 2, 1, 0)),
		"Labels of 2 vertices":           shardOf(1, two, answerOf(1, true, nil, 0, 1)),
		"Labels of 4 vertices":           shardOf(1, two, answerOf(1, true, nil, 0, 1, 0, 3)),
		"Edges of 4 vertices":            shardOf(1, two, answerOf(1, true, []impl.Edge{edge(0, 3)}, 0, 1, 0)),
		"Edges the other way round":      shardOf(1, two, answerOf(1, true, []impl.Edge{edge(1, 0)}, 0, 1, 0)),
		"Edges that do not ascend":       shardOf(1, two, answerOf(1, true, []impl.Edge{edge(1, 2), edge(0, 1)}, 0, 1, 0)),
		"one of the Edges twice":         shardOf(1, two, answerOf(1, true, []impl.Edge{edge(0, 1), edge(0, 1)}, 0, 1, 0)),
		"more than MaxEdges Edges":       shardOf(1, webOf(12), answerOf(1, true, oneTooMany(), countTo(12)...)),
		"right for the N of another one": shardOf(1, webOf(5), lastShard(1, 1, webOf(4)).Last),
	}
	for _, id := range numbersOutOf(1, impl.MaxShards) {
		list["Id out of its bounds, "+tell(id)] = shardOf(id, two, impl.Answer{})
		list["Id out of its bounds, with Last, "+tell(id)] = lastShard(id, 1, two)
	}
	for why, w := range wrongWebs() {
		labels := countTo(min(max(w.N, 0), 20))
		list["the Web: "+why] = shardOf(1, w, impl.Answer{})
		list["the Web, with Last: "+why] = shardOf(1, w, answerOf(1, true, nil, labels...))
	}
	return list
}

func TestShardOkOfWrongShards(t *testing.T) {
	for why, s := range wrongShards() {
		wantShardOk(t, why, s, false)
	}
	for why, cases := range wrongAnswers() {
		for _, c := range cases {
			s := shardOf(1, webOf(c.n), c.what)
			wantShardOk(t, "Last has "+why, s, c.n == 4 && sameAnswer(c.what, impl.Answer{}))
		}
	}
}

// Of each right web the labels alone that are its own make a Last that is right.
func TestShardOkOfLabels(t *testing.T) {
	drawn, right, wrong := drawnNumber(101), 0, 0
	for at, w := range rightWebs() {
		lists := [][]int{nil, countTo(w.N), make([]int, w.N), labelsByWords(graphByWords(w)), labelsByWords(drawn.graph(w.N))}
		for _, labels := range lists {
			s := shardOf(1+at%3, w, answerOf(1+drawn.below(impl.MaxNum), at%2 == 0, drawn.graph(w.N).Edges, labels...))
			want := shardOkByWords(s)
			wantShardOk(t, "drawn", s, want)
			if want {
				right++
			} else {
				wrong++
			}
		}
		wantShardOk(t, "Last zero", shardOf(1+at%3, w, impl.Answer{}), true)
	}
	if right < 500 || wrong < 500 {
		t.Errorf("only %d right shards, %d others", right, wrong)
	}
}

func TestObeyRefusesWrongShards(t *testing.T) {
	for why, s := range wrongShards() {
		for _, num := range []int{1, 2, s.Last.Num, s.Last.Num + 1} {
			for _, o := range commandsOn(min(max(s.Web.N, 2), 3), num, 3) {
				wantNotObeyed(t, why, s, o)
			}
		}
	}
}

func TestObeyRefusesWrongOrders(t *testing.T) {
	for why, cases := range wrongOrders() {
		for _, c := range cases {
			if c.n < 1 || c.n > impl.MaxVerts {
				continue
			}
			wantNotObeyed(t, why, freshShard(c.n), c.what)
			wantNotObeyed(t, why+", with a Last", lastShard(1, 1, webOf(c.n)), c.what)
			if c.what.Num++; !orderOkByWords(c.n, c.what) { // one whose Num alone was wrong may be right now
				wantNotObeyed(t, why+", the next", lastShard(1, 1, webOf(c.n)), c.what)
			}
		}
	}
}

// What is a right order of other vertices is none of this shard's.
func TestObeyRefusesOrdersOfOtherVertices(t *testing.T) {
	right, wrong := 0, 0
	for n := 1; n <= impl.MaxVerts; n++ {
		for _, o := range commandsOn(n, 1, 9) {
			for verts := 1; verts <= impl.MaxVerts; verts++ {
				if s := freshShard(verts); orderOkByWords(verts, o) {
					right++
					wantDoneByWords(t, "an order of "+tell(n), s, o)
				} else {
					wrong++
					wantNotObeyed(t, "an order of "+tell(n), s, o)
				}
			}
		}
	}
	if right < 1000 || wrong < 1000 {
		t.Errorf("only %d orders fit, %d did not", right, wrong)
	}
}

func TestObeyOfEveryNum(t *testing.T) {
	nums := append(numbersOutOf(1, impl.MaxNum), numsOfNote()...)
	for num := -3; num <= 12; num++ {
		nums = append(nums, num)
	}
	lasts := append(numsOfNote(), 3, 5, 7)
	for _, num := range nums {
		for _, o := range commandsOn(3, num, 7) {
			for _, s := range []impl.Shard{freshShard(3), freshShard(3, inForest(0, 1, 0))} {
				if num == 1 {
					wantDoneByWords(t, "the first one", s, o)
				} else {
					wantNotObeyed(t, "not the first one", s, o)
				}
			}
			for _, last := range lasts {
				s := lastShard(2, last, webOf(3, inForest(0, 1, 0)))
				switch {
				case num == last:
					wantToldAgain(t, s, o)
				case num == last+1 && num <= impl.MaxNum:
					wantDoneByWords(t, "the next one", s, o)
				default:
					wantNotObeyed(t, "neither that of Last nor the next", s, o)
				}
			}
		}
	}
}

// Behind the order of MaxNum no other one comes.
func TestObeyBehindTheLastNum(t *testing.T) {
	s := lastShard(3, impl.MaxNum-1, webOf(3))
	s = wantDone(t, "the last one", s, orderOf(impl.MaxNum, impl.OrderAdd, 0, edge(0, 1)), webOf(3, inForest(0, 1, 0)), true)
	wantToldAgain(t, s, orderOf(impl.MaxNum, impl.OrderRelease, 1))
	for _, num := range []int{1, impl.MaxNum - 1, impl.MaxNum + 1, 0} {
		wantNotObeyed(t, "behind the last one", s, orderOf(num, impl.OrderRelease, 1))
	}
}

// Whatever is asked with the Num of Last, it is what was told; what is no right order is refused all the same.
func TestObeyOfNumOfLast(t *testing.T) {
	w := sortedWeb(4, chainOf(0, 0, 1, 2), []impl.Ledge{beside(0, 2, 0)})
	for _, last := range []impl.Answer{
		answerOf(7, true, nil, 0, 0, 0, 3), answerOf(7, false, nil, 0, 0, 0, 3),
		answerOf(7, true, allEdges(4), 0, 0, 0, 3), answerOf(7, false, []impl.Edge{edge(0, 1)}, 0, 0, 0, 3),
	} {
		s := shardOf(2, w, last)
		for _, o := range commandsOn(4, 7, math.MaxInt) {
			wantToldAgain(t, s, o)
		}
		for why, cases := range wrongOrders() {
			for _, c := range cases {
				c.what.Num = 7
				if !orderOkByWords(4, c.what) {
					wantNotObeyed(t, why, s, c.what)
				}
			}
		}
		wantNotObeyed(t, "nothing but the Num", s, impl.Order{Num: 7})
	}
}

func TestObeyOfAddByHand(t *testing.T) {
	for _, c := range []struct {
		why  string
		was  impl.Web
		e    impl.Edge
		want impl.Web
		said bool
	}{
		{"the first one", webOf(3), edge(0, 2), webOf(3, inForest(0, 2, 0)), true},
		{"of the forest", webOf(3, inForest(0, 2, 0)), edge(0, 1), webOf(3, inForest(0, 1, 0), inForest(0, 2, 0)), true},
		{"beside it", webOf(3, inForest(0, 1, 0), inForest(0, 2, 0)), edge(1, 2), webOf(3, inForest(0, 1, 0), inForest(0, 2, 0), beside(1, 2, 0)), true},
		{"there already", webOf(3, inForest(0, 2, 0)), edge(0, 2), webOf(3, inForest(0, 2, 0)), false},
		{"there already, of a higher Level", webOf(4, inForest(0, 2, 1)), edge(0, 2), webOf(4, inForest(0, 2, 1)), false},
		{"there already, beside it", webOf(3, inForest(0, 1, 0), inForest(0, 2, 0), beside(1, 2, 0)), edge(1, 2),
			webOf(3, inForest(0, 1, 0), inForest(0, 2, 0), beside(1, 2, 0)), false},
	} {
		wantDone(t, c.why, freshShard(c.was.N, c.was.Edges...), orderOf(1, impl.OrderAdd, 0, c.e), c.want, c.said)
		wantDone(t, c.why, lastShard(3, 41, c.was), orderOf(42, impl.OrderAdd, 0, c.e), c.want, c.said)
	}
}

func TestObeyOfTakeByHand(t *testing.T) {
	ring := webOf(3, inForest(0, 1, 0), inForest(0, 2, 0), beside(1, 2, 0))
	for _, c := range []struct {
		why  string
		was  impl.Web
		e    impl.Edge
		want impl.Web
		said bool
	}{
		{"the only one", webOf(3, inForest(0, 2, 0)), edge(0, 2), webOf(3), true},
		{"of the forest, and nothing takes its place", webOf(4, inForest(0, 1, 0), inForest(1, 2, 0)), edge(0, 1), webOf(4, inForest(1, 2, 0)), true},
		{"of the forest, and one beside it takes its place", ring, edge(0, 1), webOf(3, inForest(0, 2, 0), inForest(1, 2, 0)), true},
		{"beside the forest", ring, edge(1, 2), webOf(3, inForest(0, 1, 0), inForest(0, 2, 0)), true},
		{"of a higher Level", webOf(4, inForest(0, 2, 1)), edge(0, 2), webOf(4), true},
		{"not there, there is none", webOf(3), edge(0, 2), webOf(3), false},
		{"not there, others are", webOf(4, inForest(0, 1, 0), inForest(2, 3, 1)), edge(1, 2), webOf(4, inForest(0, 1, 0), inForest(2, 3, 1)), false},
	} {
		wantDone(t, c.why, freshShard(c.was.N, c.was.Edges...), orderOf(1, impl.OrderTake, 0, c.e), c.want, c.said)
		wantDone(t, c.why, lastShard(3, 41, c.was), orderOf(42, impl.OrderTake, 0, c.e), c.want, c.said)
	}
}

func TestObeyOfReleaseByHand(t *testing.T) {
	ring := webOf(4, inForest(0, 1, 0), inForest(0, 2, 0), beside(1, 2, 0))
	for _, c := range []struct {
		why      string
		was      impl.Web
		v        int
		want     impl.Web
		released []impl.Edge
	}{
		{"no edges at all", webOf(3), 1, webOf(3), nil},
		{"of one vertex", webOf(1), 0, webOf(1), nil},
		{"none with this end", ring, 3, ring, nil},
		{"one, the end is the lesser one", webOf(3, inForest(1, 2, 0)), 1, webOf(3), []impl.Edge{edge(1, 2)}},
		{"one, the end is the greater one", webOf(3, inForest(1, 2, 0)), 2, webOf(3), []impl.Edge{edge(1, 2)}},
		{"the least vertex", ring, 0, webOf(4, inForest(1, 2, 0)), []impl.Edge{edge(0, 1), edge(0, 2)}},
		{"of the forest and beside it", ring, 1, webOf(4, inForest(0, 2, 0)), []impl.Edge{edge(0, 1), edge(1, 2)}},
		{"beside it behind that of the forest", ring, 2, webOf(4, inForest(0, 1, 0)), []impl.Edge{edge(0, 2), edge(1, 2)}},
		{"lesser and greater vertices around", sortedWeb(5, chainOf(0, 0, 2, 1), chainOf(0, 3, 2, 4), []impl.Ledge{beside(0, 1, 0), beside(3, 4, 0)}), 2,
			webOf(5, inForest(0, 1, 1), inForest(3, 4, 0)), []impl.Edge{edge(0, 2), edge(1, 2), edge(2, 3), edge(2, 4)}},
	} {
		o := orderOf(1, impl.OrderRelease, c.v)
		wantDone(t, c.why, freshShard(c.was.N, c.was.Edges...), o, c.want, true, c.released...)
		o.Num = 42
		wantDone(t, c.why, lastShard(3, 41, c.was), o, c.want, true, c.released...)
	}
}

// The edges go one behind the other, so that what took the place of one may go next, and Levels rise on the way.
func TestObeyOfReleaseTakesInOrder(t *testing.T) {
	orders := 0
	for _, was := range rightWebs() {
		for v := range was.N {
			asc, desc, edges := was, was, []impl.Edge{}
			for _, e := range graphByWords(was).Edges {
				if hasEnd(e, v) {
					edges = append(edges, e)
					asc, _, _ = takenByWords(asc, e)
				}
			}
			for _, e := range slices.Backward(edges) {
				desc, _, _ = takenByWords(desc, e)
			}
			if !sameWeb(asc, desc) && orders < 200 {
				orders++
				wantDone(t, "ascending", freshShard(was.N, was.Edges...), orderOf(1, impl.OrderRelease, v), asc, true, edges...)
			}
		}
	}
	if orders < 20 {
		t.Errorf("only of %d webs does the order tell", orders)
	}
}

func TestObeyOfAcceptByHand(t *testing.T) {
	one, ring := webOf(3, inForest(0, 1, 0)), webOf(3, inForest(0, 1, 0), inForest(0, 2, 0), beside(1, 2, 0))
	for _, c := range []struct {
		why   string
		was   impl.Web
		edges []impl.Edge
		want  impl.Web
		said  bool
	}{
		{"one that comes", webOf(3), []impl.Edge{edge(0, 1)}, one, true},
		{"all come, the last beside the forest", webOf(3), allEdges(3), ring, true},
		{"one that is there", one, []impl.Edge{edge(0, 1)}, one, false},
		{"the first is there", one, allEdges(3), ring, false},
		{"one in the middle is there", webOf(3, inForest(0, 2, 0)), allEdges(3), ring, false},
		{"the last is there", webOf(3, inForest(1, 2, 0)), allEdges(3), webOf(3, inForest(0, 1, 0), beside(0, 2, 0), inForest(1, 2, 0)), false},
		{"the last alone comes", webOf(3, inForest(0, 1, 0), inForest(0, 2, 0)), allEdges(3), ring, false},
		{"all are there", ring, allEdges(3), ring, false},
		{"all are there, of a higher Level", webOf(4, inForest(0, 1, 1), inForest(2, 3, 1)), []impl.Edge{edge(0, 1), edge(2, 3)},
			webOf(4, inForest(0, 1, 1), inForest(2, 3, 1)), false},
		{"others are there", one, []impl.Edge{edge(0, 2), edge(1, 2)}, ring, true},
	} {
		wantDone(t, c.why, freshShard(c.was.N, c.was.Edges...), orderOf(1, impl.OrderAccept, 0, c.edges...), c.want, c.said)
		wantDone(t, c.why, lastShard(3, 41, c.was), orderOf(42, impl.OrderAccept, 0, c.edges...), c.want, c.said)
	}
}

func TestObeyOfAsManyEdgesAsMayBe(t *testing.T) {
	all, s := allEdges(impl.MaxVerts), freshShard(impl.MaxVerts)
	s = wantDoneByWords(t, "all come", s, orderOf(1, impl.OrderAccept, 0, all...))
	if owned := impl.Owned(s); len(owned) != impl.MaxEdges || !s.Last.Ok {
		t.Fatalf("the shard has %d edges, Ok %v", len(owned), s.Last.Ok)
	}
	s = wantDoneByWords(t, "all are there", s, orderOf(2, impl.OrderAccept, 0, all...))
	for v := range impl.MaxVerts {
		s = wantDoneByWords(t, "each goes", s, orderOf(3+v, impl.OrderRelease, v))
		if len(s.Last.Edges) != impl.MaxVerts-1-v || !s.Last.Ok {
			t.Fatalf("%d is released with %v", v, s.Last)
		}
	}
	if owned := impl.Owned(s); len(owned) > 0 {
		t.Errorf("behind all releases there are %v", owned)
	}
}

// Each right web, small or drawn, is told each order of some, and does as the document's words have it.
func TestObeyOfWebs(t *testing.T) {
	drawn, done := drawnNumber(102), [5][2]int{}
	for at, w := range rightWebs() {
		list := commandsOn(w.N, 9, 0)
		if w.N <= 4 && at%11 != 0 {
			list = everyFew(list[at%3:], 3)
		}
		list = append(list, drawn.accept(9, w), drawn.accept(9, w))
		for _, o := range everyFew(list, 1+len(list)/30) {
			if !orderOkByWords(w.N, o) {
				continue
			}
			s := wantDoneByWords(t, "of a web", lastShard(1+at%3, 8, w), o)
			said := 0
			if s.Last.Ok {
				said = 1
			}
			done[o.Op][said]++
			wantReleased(t, w, o, s)
		}
	}
	for op := 1; op <= 4; op++ {
		if done[op][1] < 100 || op != impl.OrderRelease && done[op][0] < 100 {
			t.Errorf("of the Op %d there were %v", op, done[op])
		}
	}
	if done[impl.OrderRelease][0] > 0 {
		t.Errorf("%d releases were not Ok", done[impl.OrderRelease][0])
	}
}

// accept is drawn of edges of which some may be there; where no edge may be at all, it is no right order.
func (n *drawnNumber) accept(num int, w impl.Web) impl.Order {
	edges := []impl.Edge{}
	for _, e := range n.graph(w.N).Edges {
		if n.below(3) > 0 || !slices.Contains(graphByWords(w).Edges, e) {
			edges = append(edges, e)
		}
	}
	return orderOf(num, impl.OrderAccept, 0, edges...)
}

// wantReleased asks that what was released is there no more, and all else still is.
func wantReleased(t *testing.T, was impl.Web, o impl.Order, s impl.Shard) {
	t.Helper()
	if o.Op != impl.OrderRelease {
		if len(s.Last.Edges) > 0 {
			t.Fatalf("the answer to %v has the edges %v", o, s.Last.Edges)
		}
		return
	}
	left := slices.DeleteFunc(graphByWords(was).Edges, func(e impl.Edge) bool { return hasEnd(e, o.V) })
	if owned := impl.Owned(s); !slices.Equal(owned, left) {
		t.Fatalf("behind %v of %v there are %v; want %v", o, was, owned, left)
	}
	if len(s.Last.Edges)+len(left) != len(was.Edges) {
		t.Fatalf("behind %v of %v there are %v, and %v are released", o, was, left, s.Last.Edges)
	}
}

// next is an order for a shard of this web; it has the Num.
func (n *drawnNumber) next(num int, w impl.Web) impl.Order {
	o := n.command(w.N)
	if n.below(12) == 0 {
		o = n.accept(num, w)
	}
	if o.Op == impl.OrderAccept && n.below(3) > 0 { // so that the shard does not fill at once
		o.Edges = o.Edges[:min(len(o.Edges), 2)]
	}
	if o.Op == impl.OrderTake && len(w.Edges) > 0 && n.below(2) == 0 {
		o.Edges = []impl.Edge{edgeOfLedge(w.Edges[n.below(len(w.Edges))])}
	}
	if !orderOkByWords(w.N, o) {
		o = orderOf(num, impl.OrderRelease, n.below(w.N))
	}
	o.Num = num
	return o
}

// A shard does an order once, however often it is told: late ones and ones ahead of time leave it as it is,
// and its edges are those that orders done just once would leave.
func TestShardsForLong(t *testing.T) {
	drawn, refused, again := drawnNumber(103), 0, 0
	for n := 1; n <= impl.MaxVerts; n++ {
		s, _ := impl.ShardNew(1+n%3, n)
		kept, past := map[impl.Edge]int{}, []impl.Order{}
		for num := 1; num <= 120; num++ {
			o := drawn.next(num, s.Web)
			was := s
			s = wantDoneByWords(t, "in a long row", s, o)
			wantReleased(t, was.Web, o, s)
			wantKept(t, s, kept, o)
			past = append(past, o)
			for range 4 {
				late := past[drawn.below(len(past))]
				if late.Num == num {
					again++
					wantToldAgain(t, s, late)
				} else {
					refused++
					wantNotObeyed(t, "late", s, late)
				}
			}
			wantToldAgain(t, s, drawn.next(num, s.Web))
			wantNotObeyed(t, "ahead of time", s, drawn.next(num+2, s.Web))
			wantNotObeyed(t, "far ahead of time", s, drawn.next(num+2+drawn.below(90000), s.Web))
		}
	}
	if refused < 500 || again < 50 {
		t.Errorf("only %d orders came late, %d again", refused, again)
	}
}

// wantKept goes on with a plain set of edges, and holds the shard to it.
func wantKept(t *testing.T, s impl.Shard, kept map[impl.Edge]int, o impl.Order) {
	t.Helper()
	before := len(kept)
	switch o.Op {
	case impl.OrderAdd, impl.OrderAccept:
		for _, e := range o.Edges {
			kept[e] = o.Num
		}
		if s.Last.Ok != (len(kept) == before+len(o.Edges)) {
			t.Fatalf("the answer to %v is %v, of %d edges there are %d now", o, s.Last, before, len(kept))
		}
	case impl.OrderTake:
		delete(kept, o.Edges[0])
		if s.Last.Ok != (len(kept) < before) {
			t.Fatalf("the answer to %v is %v, of %d edges there are %d now", o, s.Last, before, len(kept))
		}
	case impl.OrderRelease:
		for e := range kept {
			if hasEnd(e, o.V) {
				delete(kept, e)
			}
		}
	}
	want := slices.DeleteFunc(allEdges(s.Web.N), func(e impl.Edge) bool { return kept[e] == 0 })
	if owned := impl.Owned(s); !slices.Equal(owned, want) {
		t.Fatalf("behind %v the shard has %v; want %v", o, owned, want)
	}
	if labels := impl.Labels(graphOf(s.Web.N, want...)); !slices.Equal(s.Last.Labels, labels) || s.Last.Num != o.Num {
		t.Fatalf("the answer to %v is %v; want the labels %v", o, s.Last, labels)
	}
}

// Of two shards one is told each order once, the other one several times, and among them others with a Num that was.
func TestOrdersToldOnceAndOften(t *testing.T) {
	drawn := drawnNumber(104)
	for n := 1; n <= impl.MaxVerts; n++ {
		once, _ := impl.ShardNew(2, n)
		often := once
		for num := 1; num <= 60; num++ {
			o := drawn.next(num, once.Web)
			one, answer, code := impl.Obey(once, o)
			once = one
			if code != 0 {
				t.Fatalf("Obey(%v, %v) tells %d", once, o, code)
			}
			for i := range 1 + drawn.below(4) {
				if i > 0 && drawn.below(2) == 0 {
					o = drawn.next(num, often.Web)
				}
				got, told, code := impl.Obey(often, o)
				if code != 0 || !sameAnswer(told, answer) {
					t.Fatalf("told for the time %d: Obey(%v, %v) = %v, %v, %d; want the answer %v", i+1, often, o, got, told, code, answer)
				}
				often = got
			}
			if !sameShard(once, often) {
				t.Fatalf("told once the shard is %v, told often %v", once, often)
			}
		}
	}
}

// What one shard releases another one accepts, and gives back: each edge is in one of them alone.
func TestReleasedAndAcceptedAgain(t *testing.T) {
	drawn, moved := drawnNumber(105), 0
	for _, w := range drawnWebs()[:120] {
		one, other := lastShard(1, 5, w), freshShard(w.N)
		v, edges := drawn.below(w.N), graphByWords(w).Edges
		one = wantDoneByWords(t, "released", one, orderOf(6, impl.OrderRelease, v))
		gone := one.Last.Edges
		if len(gone) == 0 {
			continue
		}
		moved++
		other = wantDone(t, "accepted", other, orderOf(1, impl.OrderAccept, 0, gone...), sortedWeb(w.N, starOf(gone)), true)
		if !slices.Equal(impl.Owned(other), gone) || len(impl.Owned(one))+len(gone) != len(edges) {
			t.Fatalf("of %v one shard has %v, the other one %v", edges, impl.Owned(one), impl.Owned(other))
		}
		other = wantDone(t, "released again", other, orderOf(2, impl.OrderRelease, v), webOf(w.N), true, gone...)
		one = wantDoneByWords(t, "accepted again", one, orderOf(7, impl.OrderAccept, 0, other.Last.Edges...))
		if !one.Last.Ok || !slices.Equal(impl.Owned(one), edges) || len(impl.Owned(other)) > 0 {
			t.Fatalf("of %v one shard has %v, the other one %v", edges, impl.Owned(one), impl.Owned(other))
		}
	}
	if moved < 50 {
		t.Errorf("only %d vertices were moved", moved)
	}
}

// starOf are edges with one end in common, which all come to the forest.
func starOf(edges []impl.Edge) []impl.Ledge {
	star := []impl.Ledge{}
	for _, e := range edges {
		star = append(star, inForest(e.A, e.B, 0))
	}
	return star
}

func wantOwned(t *testing.T, why string, s impl.Shard, want ...impl.Edge) {
	t.Helper()
	if got := impl.Owned(s); !slices.Equal(got, want) {
		t.Errorf("%s: Owned(%v) = %v; want %v", why, s, got, want)
	}
}

func TestOwned(t *testing.T) {
	wantOwned(t, "no edges", freshShard(3))
	wantOwned(t, "of several Levels", shardOf(1, sortedWeb(12, chainOf(1, 4, 5, 6), chainOf(2, 0, 1, 2), chainOf(0, 2, 3, 4), []impl.Ledge{beside(0, 2, 2), beside(0, 3, 0)}), impl.Answer{}),
		edge(0, 1), edge(0, 2), edge(0, 3), edge(1, 2), edge(2, 3), edge(3, 4), edge(4, 5), edge(5, 6))
	for _, w := range rightWebs() {
		edges := graphByWords(w).Edges
		wantOwned(t, "Last zero", freshShard(w.N, w.Edges...), edges...)
		wantOwned(t, "with a Last", lastShard(2, 4, w), edges...)
	}
}

// No right shard is asked for: what is told are the edges that stand there, in order, each once.
func TestOwnedOfWrongShards(t *testing.T) {
	wantOwned(t, "nothing", impl.Shard{})
	wantOwned(t, "in another order", freshShard(4, inForest(2, 3, 0), inForest(0, 3, 0), inForest(0, 1, 0)), edge(0, 1), edge(0, 3), edge(2, 3))
	wantOwned(t, "one twice", freshShard(4, inForest(2, 3, 0), inForest(0, 3, 0), beside(2, 3, 1)), edge(0, 3), edge(2, 3))
	wantOwned(t, "no right Id", shardOf(9, webOf(4, inForest(0, 1, 0)), impl.Answer{}), edge(0, 1))
	wantOwned(t, "no right Last", shardOf(1, webOf(4, inForest(0, 1, 0)), impl.Answer{Num: 7, Edges: allEdges(4)}), edge(0, 1))
	wantOwned(t, "no right N", freshShard(0, inForest(0, 1, 0)), edge(0, 1))
	for why, s := range wrongShards() {
		want := graphByWords(s.Web).Edges
		slices.SortFunc(want, func(a, b impl.Edge) int {
			if a.A < b.A || a.A == b.A && a.B < b.B {
				return -1
			}
			return 1
		})
		wantOwned(t, why, s, slices.Compact(want)...)
	}
}

// shardWithin is a copy whose lists have room behind them, which nobody may write into.
func shardWithin(s impl.Shard) impl.Shard {
	ledge, e := impl.Ledge{A: 77, B: 78, Level: 79, Tree: true}, edge(77, 78)
	return shardOf(s.Id, impl.Web{N: s.Web.N, Edges: within(s.Web.Edges, ledge)},
		impl.Answer{Num: s.Last.Num, Ok: s.Last.Ok, Edges: within(s.Last.Edges, e), Labels: within(s.Last.Labels, 77)})
}

func wantShardUntouched(t *testing.T, s, was impl.Shard) {
	t.Helper()
	want := shardWithin(was)
	if !sameShard(s, was) || !slices.Equal(s.Web.Edges[:cap(s.Web.Edges)], want.Web.Edges[:cap(want.Web.Edges)]) ||
		!slices.Equal(s.Last.Edges[:cap(s.Last.Edges)], want.Last.Edges[:cap(want.Last.Edges)]) ||
		!slices.Equal(s.Last.Labels[:cap(s.Last.Labels)], want.Last.Labels[:cap(want.Last.Labels)]) {
		t.Fatalf("the shard, or the room behind its lists, is now %v; it was %v", s, was)
	}
}

// wantObeyedApart obeys twice, and holds all lists of both answers, of the shard and of the order apart.
func wantObeyedApart(t *testing.T, was impl.Shard, order impl.Order) {
	t.Helper()
	s, o, fill := shardWithin(was), order, edge(77, 78)
	o.Edges = within(order.Edges, fill)
	one, first, _ := impl.Obey(s, o)
	two, second, _ := impl.Obey(s, o)
	three, third, _ := impl.Obey(one, o) // told again
	impl.ShardOk(s)
	wantApart(t, "the webs", s.Web.Edges, one.Web.Edges, two.Web.Edges, three.Web.Edges)
	wantApart(t, "the edges", s.Last.Edges, o.Edges, one.Last.Edges, first.Edges, two.Last.Edges, second.Edges,
		three.Last.Edges, third.Edges, impl.Owned(s), impl.Owned(s))
	wantApart(t, "the labels", s.Last.Labels, one.Last.Labels, first.Labels, two.Last.Labels, second.Labels, three.Last.Labels, third.Labels)
	wantShardUntouched(t, s, was)
	if want := within(order.Edges, fill); !slices.Equal(o.Edges[:cap(o.Edges)], want[:cap(want)]) {
		t.Fatalf("the edges of the order, or the room behind them, are now %v", o.Edges[:cap(o.Edges)])
	}
}

func TestShardsLeaveArgumentsAlone(t *testing.T) {
	drawn, shards := drawnNumber(106), []impl.Shard{}
	for at, w := range everyFew(rightWebs(), 9) {
		s := lastShard(1+at%3, 8, w)
		s.Last.Edges = drawn.graph(w.N).Edges
		shards = append(shards, s, freshShard(w.N, w.Edges...))
	}
	for _, s := range wrongShards() {
		shards = append(shards, s)
	}
	for _, s := range shards {
		for _, ahead := range []int{0, 1, 2} {
			list := commandsOn(min(max(s.Web.N, 2), impl.MaxVerts), s.Last.Num+ahead, 2)
			list = append(list, orderOf(s.Last.Num+ahead, impl.OrderAccept, 0, graphByWords(s.Web).Edges...))
			for _, o := range everyFew(list, 1+len(list)/8) {
				wantObeyedApart(t, s, o)
			}
			wantObeyedApart(t, s, list[len(list)-1])
		}
	}
}

// What is answered is the caller's: writing into it changes no later answer, nor the shard beside it.
func TestShardsAreKeptNowhere(t *testing.T) {
	was := lastShard(1, 4, sortedWeb(5, chainOf(0, 0, 1, 2), []impl.Ledge{beside(0, 2, 0)}))
	s := shardWithin(was)
	for range 3 {
		for _, o := range []impl.Order{orderOf(4, impl.OrderRelease, 1), orderOf(5, impl.OrderRelease, 1), orderOf(5, impl.OrderAdd, 0, edge(0, 1)), orderOf(5, impl.OrderAdd, 0, edge(3, 4))} {
			want, answer, _ := obeyedByWords(was, o)
			got, a, code := impl.Obey(s, o)
			if code != 0 || !sameShard(got, want) || !sameAnswer(a, answer) {
				t.Fatalf("Obey(%v, %v) = %v, %v, %d; want %v, %v", s, o, got, a, code, want, answer)
			}
			spoilAnswer(a)
			if !sameShard(got, want) {
				t.Fatalf("writing into the answer changed the shard to %v", got)
			}
			spoilAnswer(got.Last)
			for at := range got.Web.Edges {
				got.Web.Edges[at] = inForest(9, 9, 9)
			}
			owned := impl.Owned(s)
			_ = append(owned[:0], edge(9, 9), edge(9, 9))
			wantShardUntouched(t, s, was)
		}
		first, _ := impl.ShardNew(1, 2)
		first.Web.Edges = append(first.Web.Edges, inForest(0, 1, 0))
		if second, _ := impl.ShardNew(1, 2); !sameShard(second, freshShard(2)) {
			t.Fatalf("the new shard is now %v", second)
		}
	}
}

func spoilAnswer(a impl.Answer) {
	_, _ = append(a.Edges, edge(9, 9)), append(a.Labels, 9)
	for at := range a.Edges {
		a.Edges[at] = edge(9, 9)
	}
	for at := range a.Labels {
		a.Labels[at] = 9
	}
}

// Many may have one shard obey at a time: each is answered as if it were alone.
func TestObeyOfManyAtATime(t *testing.T) {
	s := lastShard(1, 8, drawnWebs()[7])
	list := append(commandsOn(s.Web.N, 9, 9), commandsOn(s.Web.N, 8, 9)...)
	fits, group := make([]bool, len(list)), sync.WaitGroup{}
	for at, o := range list {
		group.Go(func() {
			want, answer, _ := obeyedByWords(s, o)
			got, a, code := impl.Obey(s, o)
			fits[at] = code == 0 && sameShard(got, want) && sameAnswer(a, answer)
		})
	}
	group.Wait()
	if at := slices.Index(fits, false); at >= 0 {
		t.Errorf("among others Obey(%v, %v) is not what it is alone", s, list[at])
	}
}
