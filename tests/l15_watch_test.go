package tests

import (
	"fmt"
	"math"
	"slices"
	"testing"

	"loop.example/g00130/impl"
)

// modelByWords says SayNo where the document names nothing: to an edge that comes to a graph that is not right.
func modelByWords(g impl.Graph, a impl.Ask) (impl.Graph, int) {
	vertex := func(v int) bool { return v >= 0 && v < g.N }
	other := vertex(a.B)
	if a.Op == 4 {
		other = slices.Contains([]int{1, 2, 3}, a.B)
	}
	if !slices.Contains([]int{1, 2, 3, 4}, a.Op) || !vertex(a.A) || !other || a.A == a.B && a.Op <= 2 {
		return g, impl.SayBad
	}
	if a.Op == 4 {
		return g, impl.SayYes
	}
	if !graphOkByWords(g) {
		return g, impl.SayNo
	}
	if a.Op == 3 {
		labels := labelsByWords(g)
		return g, sayByWords(labels[a.A] == labels[a.B])
	}
	edges, yes := changedByWords(g.N, g.Edges, edge(min(a.A, a.B), max(a.A, a.B)), a.Op == 1)
	return graphOf(g.N, edges...), sayByWords(yes)
}

// graphsByWords are the graph without edges, and the one behind each Said.
func graphsByWords(n int, said []impl.Said) []impl.Graph {
	graphs := []impl.Graph{graphOf(n)}
	for at, s := range said {
		g := graphs[at]
		if s.Say != impl.SayBad {
			g, _ = modelByWords(g, s.Ask)
		}
		graphs = append(graphs, g)
	}
	return graphs
}

func followsByWords(n int, said []impl.Said) bool {
	for at, g := range graphsByWords(n, said)[:len(said)] {
		s := said[at]
		if _, say := modelByWords(g, s.Ask); s.Say != impl.SayBad && s.Ask.Op != impl.AskMove && s.Say != say {
			return false
		}
	}
	return true
}

func inTimeByWords(calls []impl.Call, said []impl.Said) bool {
	placeOf := func(c impl.Call) int {
		return slices.IndexFunc(said, func(s impl.Said) bool { return s.Id == c.Ask.Id })
	}
	for i, one := range calls {
		if one.Told == -1 {
			continue
		}
		if say, found := replyByWords(impl.Head{Said: said}, one.Ask.Id); !found || say != one.Say {
			return false
		}
		for j, other := range calls {
			if i != j && other.Told != -1 && one.Told < other.When && !(placeOf(one) < placeOf(other)) {
				return false
			}
		}
	}
	return true
}

// keptByWords tells how often each edge stands in a Web or in Cuts.
func keptByWords(w impl.World) map[impl.Edge]int {
	kept := map[impl.Edge]int{}
	for _, s := range w.Shards {
		for _, l := range s.Web.Edges {
			kept[edgeOfLedge(l)]++
		}
	}
	for _, e := range w.Head.Cuts {
		kept[e]++
	}
	return kept
}

func onceByWords(w impl.World) bool {
	for _, times := range keptByWords(w) {
		if times != 1 {
			return false
		}
	}
	owners := map[int]int{}
	for v, shard := range w.Head.Own {
		owners[v] = shard
	}
	for _, s := range w.Shards {
		for _, l := range s.Web.Edges {
			for _, end := range []int{l.A, l.B} {
				if owner, owned := owners[end]; w.Head.Task.Ask.Op != 4 && (!owned || owner != s.Id) {
					return false
				}
			}
		}
	}
	return true
}

func agreesByWords(w impl.World) bool {
	if w.Head.Task.Shard != 0 {
		return true
	}
	graphs, kept := graphsByWords(w.N, w.Head.Said), keptByWords(w)
	g := graphs[len(graphs)-1]
	for _, e := range g.Edges {
		kept[e]--
	}
	for _, times := range kept {
		if times != 0 {
			return false
		}
	}
	labels, ok := wholeByWords(wholeCase{w.N, w.Head.Labels, w.Head.Cuts})
	return ok && slices.Equal(labels, labelsByWords(g))
}

func soundByWords(w impl.World) bool {
	head, ok := headFromByWords(w.N, len(w.Shards), w.Done)
	if !ok || len(w.Up) != len(w.Shards)+1 {
		return false
	}
	if w.Up[0] && !slices.Equal(head.Said, w.Head.Said) {
		return false
	}
	w.Head = head
	if !followsByWords(w.N, head.Said) || !inTimeByWords(w.Calls, head.Said) {
		return false
	}
	return slices.Contains(w.Up, false) || onceByWords(w) && agreesByWords(w)
}

func wantModel(t *testing.T, why string, g impl.Graph, a impl.Ask, want impl.Graph, say int) {
	t.Helper()
	if graph, code := modelByWords(g, a); code != say || !sameGraph(graph, want) {
		t.Fatalf("%s: by the words %v makes of %v %v, and says %d; the test wants %v, %d", why, a, g, graph, code, want, say)
	}
	if graph, code := impl.Model(g, a); code != say || !sameGraph(graph, want) {
		t.Fatalf("%s: Model(%v, %v) = %v, %d; want %v, %d", why, g, a, graph, code, want, say)
	}
}

func wantModelByWords(t *testing.T, why string, g impl.Graph, a impl.Ask) int {
	t.Helper()
	want, say := modelByWords(g, a)
	wantModel(t, why, g, a, want, say)
	return say
}

func wantFollows(t *testing.T, why string, n int, said []impl.Said, want bool) {
	t.Helper()
	if followsByWords(n, said) != want {
		t.Fatalf("%s: by the words %v follows: %v", why, said, !want)
	}
	if impl.Follows(n, said) != want {
		t.Fatalf("%s: Follows(%d, %v) is not %v", why, n, said, want)
	}
}

func wantInTime(t *testing.T, why string, calls []impl.Call, said []impl.Said, want bool) {
	t.Helper()
	if inTimeByWords(calls, said) != want {
		t.Fatalf("%s: by the words %v with %v are in time: %v", why, calls, said, !want)
	}
	if impl.InTime(calls, said) != want {
		t.Fatalf("%s: InTime(%v, %v) is not %v", why, calls, said, want)
	}
}

// watch is what Once, Agrees and Sound tell of a world.
type watch struct{ once, agrees, sound bool }

var allHold = watch{true, true, true}

func wantWatch(t *testing.T, why string, w impl.World, want watch) {
	t.Helper()
	if words := (watch{onceByWords(w), agreesByWords(w), soundByWords(w)}); words != want {
		t.Fatalf("%s: by the words it is %+v, the test wants %+v, of %s", why, words, want, tell(w))
	}
	if got := (watch{impl.Once(w), impl.Agrees(w), impl.Sound(w)}); got != want {
		t.Fatalf("%s: it is %+v, want %+v, of %s", why, got, want, tell(w))
	}
}

// wantWatchByWords asks all watchers, each as the words have it.
func wantWatchByWords(t *testing.T, why string, w impl.World) watch {
	t.Helper()
	want := watch{onceByWords(w), agreesByWords(w), soundByWords(w)}
	wantWatch(t, why, w, want)
	wantFollows(t, why, w.N, w.Head.Said, followsByWords(w.N, w.Head.Said))
	wantInTime(t, why, w.Calls, w.Head.Said, inTimeByWords(w.Calls, w.Head.Said))
	return want
}

// pathAndOne has the edges of 0 and 1, of 1 and 3; 2 and 4 are apart.
func pathAndOne() impl.Graph { return graphOf(5, edge(0, 1), edge(1, 3)) }

func TestModelByHand(t *testing.T) {
	g := pathAndOne()
	for why, c := range map[string]struct {
		ask  impl.Ask
		say  int
		want impl.Graph
	}{
		"an edge comes":                           {askOf(1, impl.AskAdd, 2, 4), impl.SayYes, graphOf(5, edge(0, 1), edge(1, 3), edge(2, 4))},
		"an edge comes, the greater end first":    {askOf(1, impl.AskAdd, 2, 0), impl.SayYes, graphOf(5, edge(0, 1), edge(0, 2), edge(1, 3))},
		"an edge comes where it hangs already":    {askOf(1, impl.AskAdd, 0, 3), impl.SayYes, graphOf(5, edge(0, 1), edge(0, 3), edge(1, 3))},
		"an edge that is there":                   {askOf(1, impl.AskAdd, 0, 1), impl.SayNo, g},
		"an edge that is there, turned":           {askOf(1, impl.AskAdd, 3, 1), impl.SayNo, g},
		"an edge goes":                            {askOf(1, impl.AskTake, 0, 1), impl.SayYes, graphOf(5, edge(1, 3))},
		"an edge goes, the greater end first":     {askOf(1, impl.AskTake, 3, 1), impl.SayYes, graphOf(5, edge(0, 1))},
		"an edge that is not there":               {askOf(1, impl.AskTake, 0, 3), impl.SayNo, g},
		"an edge that is not there, turned":       {askOf(1, impl.AskTake, 4, 2), impl.SayNo, g},
		"together by an edge":                     {askOf(1, impl.AskTogether, 0, 1), impl.SayYes, g},
		"together by two":                         {askOf(1, impl.AskTogether, 3, 0), impl.SayYes, g},
		"together with itself":                    {askOf(1, impl.AskTogether, 4, 4), impl.SayYes, g},
		"not together":                            {askOf(1, impl.AskTogether, 3, 4), impl.SayNo, g},
		"moved to the first shard that may be":    {askOf(1, impl.AskMove, 0, 1), impl.SayYes, g},
		"moved to the last shard that may be":     {askOf(1, impl.AskMove, 4, impl.MaxShards), impl.SayYes, g},
		"moved to a shard with its own number":    {askOf(1, impl.AskMove, 2, 2), impl.SayYes, g},
		"moved to the shard 0":                    {askOf(1, impl.AskMove, 0, 0), impl.SayBad, g},
		"moved to a shard more than there may be": {askOf(1, impl.AskMove, 0, impl.MaxShards+1), impl.SayBad, g},
		"moved, no vertex":                        {askOf(1, impl.AskMove, 5, 1), impl.SayBad, g},
		"an edge with itself":                     {askOf(1, impl.AskAdd, 2, 2), impl.SayBad, g},
		"an edge with itself goes":                {askOf(1, impl.AskTake, 2, 2), impl.SayBad, g},
		"an end below 0":                          {askOf(1, impl.AskAdd, -1, 2), impl.SayBad, g},
		"an end past the last":                    {askOf(1, impl.AskTake, 0, 5), impl.SayBad, g},
		"together with none":                      {askOf(1, impl.AskTogether, 5, 0), impl.SayBad, g},
		"none together with itself":               {askOf(1, impl.AskTogether, 5, 5), impl.SayBad, g},
		"an Op of 0":                              {askOf(1, 0, 0, 1), impl.SayBad, g},
		"an Op of 5":                              {askOf(1, 5, 0, 1), impl.SayBad, g},
	} {
		for _, id := range []int{math.MinInt, 0, 1, impl.MaxNum + 1} { // its Id is not looked at
			c.ask.Id = id
			wantModel(t, why, g, c.ask, c.want, c.say)
		}
	}
}

// opsOfNote and numbersAround are what questions are made of: each number in its place, and those that lie outside.
func opsOfNote() []int { return []int{math.MinInt, -1, 0, 1, 2, 3, 4, 5, 6, math.MaxInt} }

func numbersAround(n int) []int { return append(countTo(n+2), math.MinInt, -1, math.MaxInt) }

func TestModelOfEachQuestion(t *testing.T) {
	says := map[[2]int]int{}
	graphs := append(everyFew(everySmallGraph(), 7), everyFew(drawnGraphs(), 60)...)
	for _, g := range graphs {
		numbers := numbersAround(max(g.N, impl.MaxShards))
		for _, op := range opsOfNote() {
			for _, a := range numbers {
				for _, b := range numbers {
					says[[2]int{op, wantModelByWords(t, "a question", g, askOf(1, op, a, b))}]++
				}
			}
		}
	}
	for op := 1; op <= 4; op++ {
		if says[[2]int{op, impl.SayYes}] < 100 || says[[2]int{op, impl.SayBad}] < 100 || (op < 4) != (says[[2]int{op, impl.SayNo}] >= 100) {
			t.Errorf("of the Op %d was said %v", op, says)
		}
	}
}

// Where A and B are numbers out of range, each alone, whatever the other one is.
func TestModelOfNumbersOutOfRange(t *testing.T) {
	for _, n := range []int{1, 2, 5, impl.MaxVerts} {
		for op := 1; op <= 4; op++ {
			for _, out := range numbersOutOf(0, n-1) {
				wantModel(t, "A is none", graphOf(n), askOf(1, op, out, 1), graphOf(n), impl.SayBad)
				if op != impl.AskMove {
					wantModel(t, "B is none", graphOf(n), askOf(1, op, 0, out), graphOf(n), impl.SayBad)
				}
				wantModel(t, "both are none", graphOf(n), askOf(1, op, out, out), graphOf(n), impl.SayBad)
			}
		}
		for _, out := range numbersOutOf(1, impl.MaxShards) {
			wantModel(t, "no shard", graphOf(n), askOf(1, impl.AskMove, n-1, out), graphOf(n), impl.SayBad)
		}
		for b := 1; b <= impl.MaxShards; b++ { // also where B is no vertex
			wantModel(t, "a shard", graphOf(n), askOf(1, impl.AskMove, n-1, b), graphOf(n), impl.SayYes)
		}
	}
}

// Of a graph that is not right nothing comes or goes, and nothing hangs together; it stays as it is.
func TestModelOfWrongGraphs(t *testing.T) {
	for why, g := range wrongGraphs() {
		for _, op := range opsOfNote() {
			for _, a := range []int{-1, 0, 1, 2, 3, 12, 13} {
				for _, b := range []int{-1, 0, 1, 2, 3, 12, 13} {
					say := wantModelByWords(t, why, g, askOf(1, op, a, b))
					if say == impl.SayYes && op != impl.AskMove {
						t.Fatalf("%s: the Op %d of %d and %d is said yes", why, op, a, b)
					}
				}
			}
		}
	}
	for _, n := range []int{math.MinInt, -1, 0} {
		for op := 1; op <= 4; op++ {
			wantModel(t, "without vertices", graphOf(n), askOf(1, op, 0, 1), graphOf(n), impl.SayBad)
		}
	}
}

// A graph that is asked row on row stays right, and says what its edges say.
func TestModelInRows(t *testing.T) {
	drawn := drawnNumber(151)
	for at := range 60 {
		g := graphOf(1 + at%12)
		for range 200 {
			a := drawn.question(1, newHeadByHand(g.N, 3))
			want, say := modelByWords(g, a)
			wantModel(t, "in a row", g, a, want, say)
			next, _ := impl.Model(g, a)
			if back := askOf(1, 3-a.Op, a.B, a.A); say == impl.SayYes && a.Op <= 2 { // what came goes, what went comes
				wantModel(t, "and back", next, back, g, impl.SayYes)
				wantModel(t, "and back, twice", g, back, g, impl.SayNo)
			}
			if g = next; !impl.GraphOk(g) {
				t.Fatalf("%v makes %v, which is not right", a, g)
			}
		}
	}
}

func wantDecided(t *testing.T, why string, n, shards int, recs []impl.Rec, want ...impl.Said) {
	t.Helper()
	if got, ok := impl.Decided(n, shards, recs); !ok || !slices.Equal(got, want) {
		t.Fatalf("%s: Decided(%d, %d) of %d records = %v, %v; want %v, true", why, n, shards, len(recs), got, ok, want)
	}
}

func wantNotDecided(t *testing.T, why string, n, shards int, recs []impl.Rec) {
	t.Helper()
	if got, ok := impl.Decided(n, shards, recs); ok || len(got) != 0 {
		t.Fatalf("%s: Decided(%d, %d) of %d records = %v, %v; want nothing, false", why, n, shards, len(recs), got, ok)
	}
}

func TestDecidedByHand(t *testing.T) {
	recs, labels := []impl.Rec{
		takeRec(11, impl.AskAdd, 1, 0),
		takeRec(12, impl.AskAdd, 0, 2), hearRec(1, answerOf(1, true, nil, 0, 1, 0, 3)),
		takeRec(13, 9, 0, 0),
		takeRec(14, impl.AskMove, 1, 1), hearRec(2, answerOf(1, true, nil, 0, 1, 2, 3)), hearRec(1, answerOf(2, true, nil, 0, 0, 0, 3)),
	}, []int{0, 1, 2, 3}
	said := []impl.Said{
		saidOf(askOf(11, impl.AskAdd, 1, 0), impl.SayYes), saidOf(askOf(12, impl.AskAdd, 0, 2), impl.SayYes),
		saidOf(askOf(13, 9, 0, 0), impl.SayBad), saidOf(askOf(14, impl.AskMove, 1, 1), impl.SayYes),
	}
	for count, many := range []int{0, 1, 1, 2, 3, 3, 3, 4} { // a Task is not Said yet
		wantDecided(t, "by hand", 4, 2, recs[:count], said[:many]...)
	}
	for why, r := range map[string]impl.Rec{
		"a record of a shard":   obeyRec(orderOf(1, impl.OrderRelease, 0)),
		"a Kind of 0":           {},
		"a Kind of 4":           {Kind: 4, Ask: askOf(9, impl.AskTogether, 0, 0)},
		"asked again":           takeRec(11, impl.AskTogether, 0, 0),
		"an Id of 0":            takeRec(0, impl.AskTogether, 0, 0),
		"nobody waits for it":   hearRec(1, answerOf(3, true, nil, labels...)),
		"an answer of nobody":   hearRec(0, answerOf(3, true, nil, labels...)),
		"a wrong answer":        hearRec(1, answerOf(3, true, nil, 0, 1)),
		"an Id above MaxNum":    takeRec(impl.MaxNum+1, impl.AskTogether, 0, 0),
		"an Id that is below 0": takeRec(-1, impl.AskTogether, 0, 0),
	} {
		for at := range len(recs) + 1 {
			if at > 0 || why != "asked again" {
				wantNotDecided(t, why, 4, 2, slices.Insert(slices.Clone(recs), at, r))
			}
		}
	}
	wantNotDecided(t, "asked while it is Busy", 4, 2, slices.Insert(slices.Clone(recs), 2, takeRec(15, impl.AskTogether, 0, 0)))
	wantNotDecided(t, "the beginning is not there", 4, 2, recs[2:])
	wantNotDecided(t, "fewer vertices", 3, 2, recs)
	wantNotDecided(t, "one shard", 4, 1, recs)
}

func TestDecidedOfNoRecords(t *testing.T) {
	for _, n := range append(numbersOutOf(1, impl.MaxVerts), countTo(impl.MaxVerts+1)...) {
		for _, shards := range append(numbersOutOf(1, impl.MaxShards), 0, 1, 2, 3) {
			for _, recs := range [][]impl.Rec{nil, {}} {
				if n < 1 || n > 12 || shards < 1 || shards > 3 {
					wantNotDecided(t, "no such head", n, shards, recs)
					wantNotDecided(t, "no such head, with a record", n, shards, []impl.Rec{takeRec(1, impl.AskTogether, 0, 0)})
				} else {
					wantDecided(t, "no records", n, shards, recs)
					wantDecided(t, "one record", n, shards, []impl.Rec{takeRec(1, impl.AskTogether, 0, 0)}, saidOf(askOf(1, impl.AskTogether, 0, 0), impl.SayYes))
				}
			}
		}
	}
}

func TestDecidedOfLives(t *testing.T) {
	drawn, broken := drawnNumber(152), 0
	for at := range 72 {
		n, shards := 1+at%12, 1+at/12%3
		d := drawn.lived(n, shards, 20)
		wantDecided(t, "of a life", n, shards, d.pages[0], d.head.Said...)
		for range 40 {
			page := drawn.spoiltPage(d.pages[0], d.pages[1])
			if head, ok := headFromByWords(n, shards, page); ok {
				wantDecided(t, "of a spoilt life", n, shards, page, head.Said...)
			} else {
				wantNotDecided(t, "of a spoilt life", n, shards, page)
				broken++
			}
		}
	}
	if broken < 500 {
		t.Errorf("only %d pages lead to no head", broken)
	}
}

// someSaid follow each other, of four vertices; each Op is said yes and no.
func someSaid() []impl.Said {
	return []impl.Said{
		saidOf(askOf(9, impl.AskAdd, 1, 0), impl.SayYes),
		saidOf(askOf(8, impl.AskTogether, 0, 1), impl.SayYes),
		saidOf(askOf(7, impl.AskAdd, 0, 1), impl.SayNo),
		saidOf(askOf(6, impl.AskTogether, 2, 1), impl.SayNo),
		saidOf(askOf(5, impl.AskAdd, 1, 2), impl.SayYes),
		saidOf(askOf(4, impl.AskTogether, 2, 0), impl.SayYes),
		saidOf(askOf(3, impl.AskTake, 2, 0), impl.SayNo),
		saidOf(askOf(2, impl.AskTake, 1, 0), impl.SayYes),
		saidOf(askOf(1, impl.AskTogether, 2, 0), impl.SayNo),
	}
}

func TestFollowsByHand(t *testing.T) {
	said := someSaid()
	for count := range len(said) + 1 {
		wantFollows(t, "the first ones", 4, said[:count], true)
	}
	for at, s := range said {
		for _, say := range []int{math.MinInt, -1, 0, impl.SayYes, impl.SayNo, 4, math.MaxInt} {
			turned := slices.Clone(said)
			turned[at].Say = say
			wantFollows(t, "a Say turned", 4, turned, say == s.Say)
		}
	}
	wantFollows(t, "fewer vertices", 2, said, false)
	wantFollows(t, "more vertices", 12, said, true)
	for _, swap := range []struct {
		at   int
		want bool
	}{{0, false}, {1, true}, {2, true}, {3, false}, {4, false}, {5, true}, {6, true}, {7, false}} {
		turned := slices.Clone(said)
		turned[swap.at], turned[swap.at+1] = turned[swap.at+1], turned[swap.at]
		wantFollows(t, fmt.Sprint("the order turned at ", swap.at), 4, turned, swap.want)
	}
}

// With SayBad nothing is asked of what is Said, whatever Model says, and no edge comes or goes by it.
func TestFollowsPassesOverWhatIsBad(t *testing.T) {
	bad := func(op, a, b int) impl.Said { return saidOf(askOf(20, op, a, b), impl.SayBad) }
	for _, s := range []impl.Said{bad(impl.AskAdd, 2, 3), bad(impl.AskTake, 0, 1), bad(impl.AskTogether, 0, 3), bad(impl.AskMove, 0, 1), bad(impl.AskAdd, 0, 0), bad(9, 9, 9)} {
		for at := range len(someSaid()) + 1 {
			wantFollows(t, "one that is bad", 4, slices.Insert(someSaid(), at, s), true)
		}
	}
	yes, no := saidOf(askOf(2, impl.AskAdd, 0, 1), impl.SayYes), saidOf(askOf(2, impl.AskAdd, 0, 1), impl.SayNo)
	wantFollows(t, "it did not come", 4, []impl.Said{bad(impl.AskAdd, 0, 1), yes}, true)
	wantFollows(t, "it did not come", 4, []impl.Said{bad(impl.AskAdd, 0, 1), no}, false)
	wantFollows(t, "it did not go", 4, []impl.Said{yes, bad(impl.AskTake, 0, 1), no}, true)
	wantFollows(t, "it did not go", 4, []impl.Said{yes, bad(impl.AskTake, 0, 1), yes}, false)
	for _, ask := range []impl.Ask{askOf(1, 0, 0, 1), askOf(1, 5, 0, 1), askOf(1, impl.AskAdd, 1, 1), askOf(1, impl.AskTake, 0, 4), askOf(1, impl.AskTogether, -1, 0)} {
		for say := range 5 {
			wantFollows(t, "a question without sense", 4, []impl.Said{saidOf(ask, say)}, say == impl.SayBad)
		}
	}
}

// To a move anything may be said, with sense or without; it changes nothing.
func TestFollowsOfMoves(t *testing.T) {
	for _, say := range []int{math.MinInt, 0, impl.SayYes, impl.SayNo, impl.SayBad, 4} {
		for _, ask := range []impl.Ask{askOf(20, impl.AskMove, 0, 1), askOf(20, impl.AskMove, 1, 3), askOf(20, impl.AskMove, 4, 1), askOf(20, impl.AskMove, 0, 0), askOf(20, impl.AskMove, -1, 9)} {
			for at := range len(someSaid()) + 1 {
				wantFollows(t, "a move", 4, slices.Insert(someSaid(), at, saidOf(ask, say)), true)
			}
			wantFollows(t, "a move alone", 4, []impl.Said{saidOf(ask, say)}, true)
		}
	}
}

// Without vertices nothing has sense; of more than there may be there is no right graph, which says no.
func TestFollowsOfNoGraph(t *testing.T) {
	for _, n := range append(numbersOutOf(1, impl.MaxVerts), 0, 1, impl.MaxVerts) {
		wantFollows(t, "nothing Said", n, nil, true)
		wantFollows(t, "nothing Said", n, []impl.Said{}, true)
		wantFollows(t, "what is bad", n, []impl.Said{saidOf(askOf(1, impl.AskAdd, 0, 1), impl.SayBad), saidOf(askOf(2, impl.AskMove, 0, 1), impl.SayYes)}, true)
		for op := range 5 {
			for say := range 4 {
				said := []impl.Said{saidOf(askOf(1, op, 0, 1), say), saidOf(askOf(2, op, 1, 0), say)}
				wantFollows(t, "two of "+tell(n), n, said, followsByWords(n, said))
				wantFollows(t, "one of "+tell(n), n, said[:1], followsByWords(n, said[:1]))
			}
		}
	}
}

func TestFollowsOfDrawnSaid(t *testing.T) {
	drawn, told := drawnNumber(153), map[bool]int{}
	for at := range 240 {
		n, shards := 1+at%12, 1+at/12%3
		said := drawn.lived(n, shards, 25).head.Said
		wantFollows(t, "of a life", n, said, true)
		for range 12 {
			spoilt := drawn.spoiltSaid(said)
			want := followsByWords(n, spoilt)
			wantFollows(t, "spoilt", n, spoilt, want)
			told[want]++
		}
	}
	if min(told[true], told[false]) < 300 {
		t.Errorf("so many follow, or not: %v", told)
	}
}

// spoiltSaid has one turned, taken away, put in once more, or two of them in each other's place.
func (n *drawnNumber) spoiltSaid(said []impl.Said) []impl.Said {
	c := slices.Clone(said)
	if len(c) == 0 {
		return append(c, saidOf(askOf(1+n.below(9), n.below(6), n.below(4), n.below(4)), n.below(5)))
	}
	at, other := n.below(len(c)), n.below(len(c))
	switch n.below(7) {
	case 0:
		c[at].Say = n.below(5)
	case 1:
		c[at].Say = 1 + (c[at].Say+n.below(2))%3
	case 2:
		c = slices.Delete(c, at, at+1)
	case 3:
		c = slices.Insert(c, other, c[at])
	case 4:
		c[at], c[other] = c[other], c[at]
	case 5:
		c[at].Id = n.below(30)
	default:
		c[at].Ask.Op = n.below(6)
	}
	return c
}

func callOf(id, when, told, say int) impl.Call {
	return impl.Call{Ask: askOf(id, impl.AskTogether, 0, 0), When: when, Told: told, Say: say}
}

// saidIds has these Ids, each with this Say.
func saidIds(say int, ids ...int) []impl.Said {
	said := []impl.Said{}
	for _, id := range ids {
		said = append(said, saidOf(askOf(id, impl.AskTogether, 0, 0), say))
	}
	return said
}

func TestInTimeByHand(t *testing.T) {
	yes, no := impl.SayYes, impl.SayNo
	wantInTime(t, "no calls", nil, nil, true)
	wantInTime(t, "no calls", []impl.Call{}, saidIds(yes, 1, 2), true)
	wantInTime(t, "not told", []impl.Call{callOf(1, 0, -1, 0), callOf(2, 5, -1, yes)}, nil, true)
	wantInTime(t, "not told, but Said", []impl.Call{callOf(1, 0, -1, 0), callOf(2, 5, -1, no)}, saidIds(yes, 2, 1), true)
	wantInTime(t, "told and Said", []impl.Call{callOf(1, 3, 4, yes)}, saidIds(yes, 1), true)
	wantInTime(t, "told at 0", []impl.Call{callOf(1, 0, 0, yes)}, saidIds(yes, 1), true)
	wantInTime(t, "told at 0, not Said", []impl.Call{callOf(1, 0, 0, yes)}, saidIds(yes, 2), false)
	wantInTime(t, "told, nothing Said", []impl.Call{callOf(1, 3, 4, yes)}, nil, false)
	wantInTime(t, "told, another Id is Said", []impl.Call{callOf(1, 3, 4, yes)}, saidIds(yes, 2, 3), false)
	wantInTime(t, "the last is not Said", []impl.Call{callOf(1, 3, 4, yes), callOf(2, 3, 4, yes)}, saidIds(yes, 1), false)
	for say := range 5 {
		wantInTime(t, "another Say", []impl.Call{callOf(1, 3, 4, say)}, saidIds(no, 1), say == no)
		wantInTime(t, "another Say, of the last", []impl.Call{callOf(2, 3, 4, no), callOf(1, 3, 4, say)}, saidIds(no, 1, 2), say == no)
	}
}

// The first call is told ahead of, at, and behind the event When of the other one; both orders in Said, and of the calls.
func TestInTimeOfTwoCalls(t *testing.T) {
	yes := impl.SayYes
	for told, ahead := range map[int]bool{0: true, 4: true, 5: false, 6: false, 70: false} {
		first, other := callOf(1, 0, told, yes), callOf(2, 5, 60, yes)
		for _, calls := range [][]impl.Call{{first, other}, {other, first}} {
			wantInTime(t, "in order", calls, saidIds(yes, 1, 2), true)
			wantInTime(t, "in order, among others", calls, saidIds(yes, 7, 1, 8, 2, 9), true)
			wantInTime(t, "the other way round", calls, saidIds(yes, 2, 1), !ahead)
			wantInTime(t, "the other way round, among others", calls, saidIds(yes, 7, 2, 8, 1, 9), !ahead)
		}
		other.Told = -1
		wantInTime(t, "the other one is not told", []impl.Call{first, other}, saidIds(yes, 2, 1), true)
		wantInTime(t, "the other one is not Said", []impl.Call{first, other}, saidIds(yes, 1), true)
	}
	calls := []impl.Call{callOf(1, 0, 1, yes), callOf(2, 2, 3, yes), callOf(3, 4, 5, yes)}
	for _, ids := range [][]int{{1, 2, 3}, {1, 3, 2}, {2, 1, 3}, {2, 3, 1}, {3, 1, 2}, {3, 2, 1}} {
		wantInTime(t, "three calls", calls, saidIds(yes, ids...), slices.IsSorted(ids))
	}
}

// What no life has: one Id in two calls, a call that is told ahead of its own When, an Id that is Said twice.
func TestInTimeOfOddCalls(t *testing.T) {
	yes, no := impl.SayYes, impl.SayNo
	wantInTime(t, "told ahead of its When", []impl.Call{callOf(1, 5, 2, yes)}, saidIds(yes, 1), true)
	wantInTime(t, "one Id, at one time", []impl.Call{callOf(1, 0, 2, yes), callOf(1, 2, 2, yes)}, saidIds(yes, 1), true)
	wantInTime(t, "one Id, one behind the other", []impl.Call{callOf(1, 0, 2, yes), callOf(1, 3, 4, yes)}, saidIds(yes, 1), false)
	wantInTime(t, "one Id, one ahead of the other", []impl.Call{callOf(1, 3, 4, yes), callOf(1, 0, 2, yes)}, saidIds(yes, 1), false)
	twice := append(saidIds(no, 1), saidIds(yes, 2, 1)...)
	wantInTime(t, "Said twice, the first counts", []impl.Call{callOf(1, 0, 0, no)}, twice, true)
	wantInTime(t, "Said twice, the first counts", []impl.Call{callOf(1, 0, 0, yes)}, twice, false)
	wantInTime(t, "Said twice, the first place counts", []impl.Call{callOf(1, 0, 0, no), callOf(2, 1, 1, yes)}, twice, true)
	wantInTime(t, "Said twice, the first place counts", []impl.Call{callOf(2, 0, 0, yes), callOf(1, 1, 1, no)}, twice, false)
	odd := []impl.Said{{Id: 1, Ask: askOf(2, 1, 0, 1), Say: yes}, {Id: 2, Ask: askOf(1, 1, 0, 1), Say: no}}
	wantInTime(t, "an Id that is not its question's", []impl.Call{callOf(1, 0, 0, yes), callOf(2, 1, 1, no)}, odd, true)
	wantInTime(t, "the question is not looked at", []impl.Call{{Ask: askOf(1, impl.AskMove, 5, 5), Say: yes}}, saidIds(yes, 1), true)
	for _, told := range []int{math.MinInt, -2, math.MaxInt} { // -1 alone is not told
		wantInTime(t, "told at "+tell(told), []impl.Call{callOf(1, 0, told, yes)}, nil, false)
		wantInTime(t, "told at "+tell(told), []impl.Call{callOf(1, 0, told, yes)}, saidIds(yes, 1), true)
		wantInTime(t, "told at "+tell(told), []impl.Call{callOf(1, 0, told, yes), callOf(2, 0, 9, yes)}, saidIds(yes, 2, 1), told > 0)
	}
	wantInTime(t, "at the ends of numbers", []impl.Call{callOf(1, 0, math.MinInt, yes), callOf(2, math.MaxInt, 9, yes)}, saidIds(yes, 2, 1), false)
}

func TestInTimeOfDrawnCalls(t *testing.T) {
	drawn, told := drawnNumber(154), map[bool]int{}
	for range 60000 {
		said := []impl.Said{}
		for _, id := range mixed(&drawn, countTo(5))[:3+drawn.below(3)] {
			said = append(said, saidOf(askOf(id, 1, 0, 1), 1+drawn.below(2)))
		}
		calls := []impl.Call{}
		for range drawn.below(5) {
			c := callOf(drawn.below(5), drawn.below(6), drawn.below(8)-1, 1+drawn.below(2))
			if say, found := impl.ReplyOf(impl.Head{Said: said}, c.Ask.Id); found && drawn.below(12) > 0 {
				c.Say = say
			}
			calls = append(calls, c)
		}
		want := inTimeByWords(calls, said)
		wantInTime(t, "drawn", calls, said, want)
		told[want]++
	}
	if min(told[true], told[false]) < 5000 {
		t.Errorf("so many are in time, or not: %v", told)
	}
}

// settled is the end of a life in which nothing is going on: the edge of 0 and 2 is in the shard 1, that of 1 and 3 in the
// shard 2, that of 0 and 1 in Cuts.
func settled(t *testing.T) impl.World {
	t.Helper()
	life := eventList(oneQuestion(), []impl.Event{
		evAsk(2, impl.AskAdd, 0, 1), evAsk(3, impl.AskAdd, 3, 1), evTick(0), evDeliver(0), evDeliver(0),
		evAsk(4, impl.AskTogether, 2, 3), evAsk(5, impl.AskTake, 0, 3), evAsk(6, 9, 0, 0), evAsk(7, impl.AskMove, 0, 1),
	})
	return wantRun(t, "settled", 4, 2, life, make([]int, len(life))...)
}

// moving goes on with a move of 0, which the shard 1 has released; behind the last step the edge of 0 and 1 is the shard 2's to
// accept. It has the world behind each step.
func moving(t *testing.T) []impl.World {
	t.Helper()
	steps, worlds := []impl.Event{evAsk(8, impl.AskMove, 0, 2), evTick(0), evDeliver(0), evDeliver(0), evTick(0), evDeliver(0), evDeliver(0)}, []impl.World{}
	was := settled(t)
	for at, e := range steps {
		w, number := eventByWords(was, e, 13+at)
		if number != 0 {
			t.Fatalf("the step %d of the move has the number %d", at, number)
		}
		worlds, was = append(worlds, w), w
	}
	return worlds
}

func TestWorldsToWatch(t *testing.T) {
	w := settled(t)
	wantWatch(t, "settled", w, allHold)
	if !slices.Equal(impl.Owned(w.Shards[0]), []impl.Edge{edge(0, 2)}) || !slices.Equal(impl.Owned(w.Shards[1]), []impl.Edge{edge(1, 3)}) || !slices.Equal(w.Head.Cuts, []impl.Edge{edge(0, 1)}) || impl.Busy(w.Head) {
		t.Errorf("the settled world is %s", tell(w))
	}
	worlds := moving(t)
	for at, w := range worlds {
		wantWatch(t, fmt.Sprint("the move at ", at), w, allHold)
		if impl.Busy(w.Head) != (at < len(worlds)-1) {
			t.Errorf("the head is Busy: %v", impl.Busy(w.Head))
		}
	}
	if last := worlds[len(worlds)-1]; !slices.Equal(impl.Owned(last.Shards[1]), []impl.Edge{edge(0, 1), edge(1, 3)}) || !slices.Equal(last.Head.Cuts, []impl.Edge{edge(0, 2)}) {
		t.Errorf("the world behind the move is %s", tell(last))
	}
	for n := 1; n <= impl.MaxVerts; n++ {
		for shards := 1; shards <= impl.MaxShards; shards++ {
			w, _ := impl.WorldNew(n, shards)
			wantWatch(t, "a new world", w, allHold)
		}
	}
	wantWatch(t, "no world", impl.World{}, watch{once: true})
}

func TestOnceByHand(t *testing.T) {
	for why, c := range map[string]struct {
		change func(w *impl.World)
		want   bool
	}{
		"as it is":                          {func(w *impl.World) {}, true},
		"in two Webs":                       {func(w *impl.World) { w.Shards[1].Web = webOf(4, inForest(0, 2, 0), inForest(1, 3, 0)) }, false},
		"in a Web and in Cuts":              {func(w *impl.World) { w.Head.Cuts = []impl.Edge{edge(0, 1), edge(0, 2)} }, false},
		"in the last Web and in Cuts":       {func(w *impl.World) { w.Head.Cuts = []impl.Edge{edge(0, 1), edge(1, 3)} }, false},
		"twice in Cuts":                     {func(w *impl.World) { w.Head.Cuts = []impl.Edge{edge(0, 1), edge(0, 1)} }, false},
		"twice in a Web":                    {func(w *impl.World) { w.Shards[0].Web = webOf(4, inForest(0, 2, 0), beside(0, 2, 0)) }, false},
		"no edges at all":                   {func(w *impl.World) { w.Head.Cuts, w.Shards[0].Web.Edges, w.Shards[1].Web.Edges = nil, nil, nil }, true},
		"no shards":                         {func(w *impl.World) { w.Shards = nil }, true},
		"an edge less in Cuts":              {func(w *impl.World) { w.Head.Cuts = nil }, true},
		"an edge of no question in Cuts":    {func(w *impl.World) { w.Head.Cuts = append(w.Head.Cuts, edge(2, 3)) }, true},
		"in Cuts within a shard":            {func(w *impl.World) { w.Shards[0].Web.Edges, w.Head.Cuts = nil, []impl.Edge{edge(0, 1), edge(0, 2)} }, true},
		"B is another shard's":              {func(w *impl.World) { w.Shards[0].Web = webOf(4, inForest(0, 3, 0)) }, false},
		"A is another shard's":              {func(w *impl.World) { w.Shards[0].Web = webOf(4, inForest(1, 2, 0)) }, false},
		"both are another shard's":          {func(w *impl.World) { w.Shards[0], w.Shards[1].Web = w.Shards[1], webOf(4); w.Shards[0].Id = 1 }, false},
		"of the last shard, B is another's": {func(w *impl.World) { w.Shards[1].Web = webOf(4, inForest(1, 2, 0)) }, false},
		"Own tells otherwise of A":          {func(w *impl.World) { w.Head.Own[0] = 2 }, false},
		"Own tells otherwise of B":          {func(w *impl.World) { w.Head.Own[3] = 1 }, false},
		"Own tells of no shard":             {func(w *impl.World) { w.Head.Own[2] = 0 }, false},
		"Own is too short":                  {func(w *impl.World) { w.Head.Own = w.Head.Own[:3] }, false},
		"no Own":                            {func(w *impl.World) { w.Head.Own = nil }, false},
		"no Own and no Webs":                {func(w *impl.World) { w.Head.Own, w.Shards[0].Web.Edges, w.Shards[1].Web.Edges = nil, nil, nil }, true},
		"Ids that are turned":               {func(w *impl.World) { w.Shards[0].Id, w.Shards[1].Id = 2, 1 }, false},
		"shards that changed places":        {func(w *impl.World) { w.Shards[0], w.Shards[1] = w.Shards[1], w.Shards[0] }, true},
		"an end that is no vertex":          {func(w *impl.World) { w.Shards[0].Web = webOf(4, inForest(0, 4, 0)) }, false},
		"an end below 0":                    {func(w *impl.World) { w.Shards[0].Web = webOf(4, inForest(-1, 2, 0)) }, false},
		"ends far out":                      {func(w *impl.World) { w.Shards[0].Web = webOf(4, inForest(math.MinInt, math.MaxInt, 0)) }, false},
		"levels that are not right":         {func(w *impl.World) { w.Shards[0].Web = webOf(4, beside(0, 2, 9)) }, true},
		"all are down":                      {func(w *impl.World) { w.Up = []bool{false, false, false} }, true},
		"no Up, no Done, no Calls":          {func(w *impl.World) { w.Up, w.Done, w.Calls, w.N = nil, nil, nil, 0 }, true},
	} {
		w := changedWorld(settled(t), c.change)
		if got, words := impl.Once(w), onceByWords(w); got != c.want || words != c.want {
			t.Errorf("%s: it is kept once: %v, by the words %v; want %v", why, got, words, c.want)
		}
	}
}

// With a Task of AskMove the owners are not asked for; that an edge is kept once still is.
func TestOnceWithTasks(t *testing.T) {
	tasks := map[int]impl.Task{
		0:                {},
		impl.AskAdd:      taskOf(askOf(9, impl.AskAdd, 0, 2), 1, orderOf(2, impl.OrderAdd, 0, edge(0, 2))),
		impl.AskTake:     taskOf(askOf(9, impl.AskTake, 0, 2), 1, orderOf(2, impl.OrderTake, 0, edge(0, 2))),
		impl.AskMove:     taskOf(askOf(9, impl.AskMove, 0, 2), 1, orderOf(2, impl.OrderRelease, 0)),
		impl.AskMove + 1: taskOf(askOf(9, impl.AskMove+1, 0, 2), 1, orderOf(2, impl.OrderAccept, 0, edge(0, 2))),
	}
	for op, task := range tasks {
		moves := op == impl.AskMove
		for why, c := range map[string]struct {
			change func(w *impl.World)
			want   bool
		}{
			"as it is":             {func(w *impl.World) {}, true},
			"A is another shard's": {func(w *impl.World) { w.Shards[0].Web = webOf(4, inForest(1, 2, 0)) }, moves},
			"B is another shard's": {func(w *impl.World) { w.Shards[1].Web = webOf(4, inForest(1, 2, 0)) }, moves},
			"no Own":               {func(w *impl.World) { w.Head.Own = nil }, moves},
			"in two Webs":          {func(w *impl.World) { w.Shards[0].Web = w.Shards[1].Web }, false},
			"in a Web and in Cuts": {func(w *impl.World) { w.Head.Cuts = []impl.Edge{edge(0, 2)} }, false},
		} {
			w := changedWorld(settled(t), func(w *impl.World) { w.Head.Task = task; c.change(w) })
			if got, words := impl.Once(w), onceByWords(w); got != c.want || words != c.want {
				t.Errorf("%s, with a Task of the Op %d: it is kept once: %v, by the words %v; want %v", why, op, got, words, c.want)
			}
		}
	}
}

// disagreements are changes of a settled world by which head and shards tell something else than the graph.
func disagreements() map[string]func(w *impl.World) {
	return map[string]func(w *impl.World){
		"an edge too many in a Web":         func(w *impl.World) { w.Shards[0].Web = webOf(4, inForest(0, 2, 0), inForest(2, 3, 0)) },
		"an edge too many in the last Web":  func(w *impl.World) { w.Shards[1].Web = webOf(4, inForest(0, 3, 0), inForest(1, 3, 0)) },
		"an edge too few in a Web":          func(w *impl.World) { w.Shards[0].Web = webOf(4) },
		"an edge too few in the last Web":   func(w *impl.World) { w.Shards[1].Web = webOf(4) },
		"another edge in a Web":             func(w *impl.World) { w.Shards[0].Web = webOf(4, inForest(0, 3, 0)) },
		"an edge turned in a Web":           func(w *impl.World) { w.Shards[0].Web = webOf(4, inForest(2, 0, 0)) },
		"an edge twice in a Web":            func(w *impl.World) { w.Shards[0].Web = webOf(4, inForest(0, 2, 0), inForest(0, 2, 0)) },
		"an edge of Cuts in a Web":          func(w *impl.World) { w.Shards[0].Web = webOf(4, inForest(0, 1, 0), inForest(0, 2, 0)) },
		"a shard too few":                   func(w *impl.World) { w.Shards = w.Shards[:1] },
		"a shard twice":                     func(w *impl.World) { w.Shards = append(w.Shards, w.Shards[0]) },
		"no shards":                         func(w *impl.World) { w.Shards = nil },
		"an edge too many in Cuts":          func(w *impl.World) { w.Head.Cuts = []impl.Edge{edge(0, 1), edge(1, 2)} },
		"an edge too few in Cuts":           func(w *impl.World) { w.Head.Cuts = nil },
		"another edge in Cuts":              func(w *impl.World) { w.Head.Cuts = []impl.Edge{edge(0, 3)} },
		"an edge twice in Cuts":             func(w *impl.World) { w.Head.Cuts = []impl.Edge{edge(0, 1), edge(0, 1)} },
		"an edge turned in Cuts":            func(w *impl.World) { w.Head.Cuts = []impl.Edge{edge(1, 0)} },
		"labels that tell too little":       func(w *impl.World) { w.Head.Labels[0] = countTo(4) },
		"labels of the last, too little":    func(w *impl.World) { w.Head.Labels[1] = countTo(4) },
		"labels that are not right":         func(w *impl.World) { w.Head.Labels[0] = []int{0, 1, 0, 4} },
		"labels of fewer vertices":          func(w *impl.World) { w.Head.Labels[0] = []int{0, 1, 0} },
		"no labels":                         func(w *impl.World) { w.Head.Labels = nil },
		"labels of one shard":               func(w *impl.World) { w.Head.Labels = w.Head.Labels[:1] },
		"labels of too many shards":         func(w *impl.World) { w.Head.Labels = append(w.Head.Labels, countTo(4), countTo(4)) },
		"nothing Said":                      func(w *impl.World) { w.Head.Said = nil },
		"an edge that was not Said":         func(w *impl.World) { w.Head.Said = slices.Delete(w.Head.Said, 1, 2) },
		"an edge that was Said, and is bad": func(w *impl.World) { w.Head.Said[1].Say = impl.SayBad },
		"one more is Said": func(w *impl.World) {
			w.Head.Said = append(w.Head.Said, saidOf(askOf(99, impl.AskAdd, 1, 2), impl.SayYes))
		},
		"an edge is Said to be gone": func(w *impl.World) {
			w.Head.Said = append(w.Head.Said, saidOf(askOf(99, impl.AskTake, 1, 0), impl.SayYes))
		},
		"N of 3":           func(w *impl.World) { w.N = 3 },
		"N of 5":           func(w *impl.World) { w.N = 5 },
		"N of 0":           func(w *impl.World) { w.N = 0 },
		"N above MaxVerts": func(w *impl.World) { w.N = impl.MaxVerts + 1 },
	}
}

// agreements are changes that are not asked for.
func agreements() map[string]func(w *impl.World) {
	return map[string]func(w *impl.World){
		"as it is":                       func(w *impl.World) {},
		"an edge in another shard's Web": func(w *impl.World) { w.Shards[0], w.Shards[1] = w.Shards[1], w.Shards[0] },
		"an edge of a Web in Cuts":       func(w *impl.World) { w.Head.Cuts, w.Shards[0].Web = []impl.Edge{edge(0, 2), edge(0, 1)}, webOf(4) },
		"all edges in one Web": func(w *impl.World) {
			w.Shards[0].Web, w.Shards[1].Web = webOf(4, inForest(0, 2, 0), beside(1, 3, 9)), webOf(4)
		},
		"no Own":                             func(w *impl.World) { w.Head.Own = nil },
		"Ids that are turned":                func(w *impl.World) { w.Shards[0].Id, w.Shards[1].Id = 2, 1 },
		"labels of both in one list":         func(w *impl.World) { w.Head.Labels = [][]int{{0, 1, 0, 1}} },
		"labels that tell more, but no less": func(w *impl.World) { w.Head.Labels[0] = []int{0, 0, 0, 0} },
		"one more that is bad": func(w *impl.World) {
			w.Head.Said = append(w.Head.Said, saidOf(askOf(99, impl.AskAdd, 1, 2), impl.SayBad))
		},
		"one more that changes nothing": func(w *impl.World) {
			w.Head.Said = append(w.Head.Said, saidOf(askOf(99, impl.AskAdd, 1, 0), impl.SayYes))
		},
		"a Say that is turned":     func(w *impl.World) { w.Head.Said[0].Say = impl.SayNo },
		"a Task without a Shard":   func(w *impl.World) { w.Head.Task.Ask.Op = impl.AskAdd },
		"some are down":            func(w *impl.World) { w.Up[0], w.Up[2] = false, false },
		"no Up, no Done, no Calls": func(w *impl.World) { w.Up, w.Done, w.Calls = nil, nil, nil },
		"a head of more vertices":  func(w *impl.World) { w.Head.N = 5 },
	}
}

func TestAgreesByHand(t *testing.T) {
	for want, list := range map[bool]map[string]func(w *impl.World){true: agreements(), false: disagreements()} {
		for why, change := range list {
			w := changedWorld(settled(t), change)
			if got, words := impl.Agrees(w), agreesByWords(w); got != want || words != want {
				t.Errorf("%s: it agrees: %v, by the words %v; want %v", why, got, words, want)
			}
			for _, shard := range []int{1, 2, 9, -1} { // a head that is Busy is not asked, whatever else it is
				w.Head.Task.Shard = shard
				if !impl.Agrees(w) {
					t.Errorf("%s: a head that is Busy does not agree", why)
				}
			}
		}
	}
}

// An edge that stands twice is not the graph's, also where the graph has none at all.
func TestAgreesOfEdgesThatStandTwice(t *testing.T) {
	web := webOf(4, inForest(0, 2, 0))
	for why, change := range map[string]func(w *impl.World){
		"in two Webs":          func(w *impl.World) { w.Shards[0].Web, w.Shards[1].Web = web, web },
		"in one Web":           func(w *impl.World) { w.Shards[1].Web = webOf(4, inForest(0, 2, 0), beside(0, 2, 0)) },
		"in a Web and in Cuts": func(w *impl.World) { w.Shards[0].Web, w.Head.Cuts = web, []impl.Edge{edge(0, 2)} },
	} {
		wantWatch(t, why, changedWorld(newWorldByHand(4, 2), change), watch{})
	}
}

// While the head is Busy the shards may have done already what is not Said yet.
func TestAgreesWhileTheHeadIsBusy(t *testing.T) {
	for count := 1; count <= 3; count++ {
		w := wantMore(t, "busy", nil, oneQuestion()[:count], make([]int, count)...)
		wantWatch(t, "busy", w, allHold)
		w.Head.Task = impl.Task{}
		if want := count < 3; impl.Agrees(w) != want || agreesByWords(w) != want {
			t.Errorf("without a Task behind %d steps it agrees: %v", count, !want)
		}
	}
	for at, w := range moving(t)[:6] {
		w.Head.Task = impl.Task{}
		if want := at < 2; impl.Agrees(w) != want || agreesByWords(w) != want {
			t.Errorf("without a Task in the move at %d it agrees: %v", at, !want)
		}
	}
}

// lies is a life in which the shard 1 has added the edge, but told that it has not.
func lies(t *testing.T) impl.World {
	t.Helper()
	return changedWorld(wantMore(t, "one question", nil, oneQuestion(), 0, 0, 0, 0), func(w *impl.World) {
		w.Done[1].Answer.Ok = false
		w.Head.Said[0].Say, w.Calls[0].Say = impl.SayNo, impl.SayNo
	})
}

func TestSoundWithOneBrokenAlone(t *testing.T) {
	w := lies(t)
	if !impl.InTime(w.Calls, w.Head.Said) || impl.Follows(4, w.Head.Said) {
		t.Errorf("what the shard lies is not told by Follows alone")
	}
	wantWatch(t, "Follows", w, watch{once: true, agrees: true})
	for node := range 3 {
		w.Up[node] = false
		wantWatch(t, "Follows, with some down", w, watch{once: true, agrees: true})
	}
	for why, change := range map[string]func(w *impl.World){
		"a Say that is not the one":  func(w *impl.World) { w.Calls[3].Say = impl.SayNo },
		"told, but nowhere Said":     func(w *impl.World) { w.Calls[0].Ask.Id = 99 },
		"told ahead of another When": func(w *impl.World) { w.Calls[0].When, w.Calls[1].Told = 6, 5 },
		"one more, which is told":    func(w *impl.World) { w.Calls = append(w.Calls, callOf(99, 0, 0, impl.SayYes)) },
	} {
		w := changedWorld(settled(t), change)
		if !impl.Follows(4, w.Head.Said) || impl.InTime(w.Calls, w.Head.Said) {
			t.Errorf("%s: InTime is not broken alone", why)
		}
		wantWatch(t, "InTime: "+why, w, watch{once: true, agrees: true})
		w.Up = []bool{false, true, false}
		wantWatch(t, "InTime, with some down: "+why, w, watch{once: true, agrees: true})
	}
	for why, change := range map[string]func(w *impl.World){
		"edges of another shard": func(w *impl.World) { w.Shards[0].Web, w.Shards[1].Web = w.Shards[1].Web, w.Shards[0].Web },
		"Ids that are turned":    func(w *impl.World) { w.Shards[0].Id, w.Shards[1].Id = 2, 1 },
	} {
		wantWatch(t, "Once: "+why, changedWorld(settled(t), change), watch{agrees: true})
		for node := range 3 {
			w := changedWorld(settled(t), change)
			w.Up[node] = false
			wantWatch(t, "Once, with some down: "+why, w, watch{agrees: true, sound: true})
		}
	}
	for why, change := range map[string]func(w *impl.World){
		"an edge too few": func(w *impl.World) { w.Shards[0].Web.Edges = nil },
		"an edge too many": func(w *impl.World) {
			*w = changedWorld(newWorldByHand(4, 2), func(w *impl.World) { w.Shards[0].Web = webOf(4, inForest(0, 2, 0)) })
		},
	} {
		wantWatch(t, "Agrees: "+why, changedWorld(settled(t), change), watch{once: true})
		for node := range 3 {
			w := changedWorld(settled(t), change)
			w.Up[node] = false
			wantWatch(t, "Agrees, with some down: "+why, w, watch{once: true, sound: true})
		}
	}
}

// What is looked at is the head that the records lead to: of the world's own only what it has Said, and that when it is up.
func TestSoundLooksAtTheHeadOfTheRecords(t *testing.T) {
	for why, change := range map[string]func(h *impl.Head){
		"Cuts":          func(h *impl.Head) { h.Cuts = append(h.Cuts, edge(0, 2)) },
		"no Cuts":       func(h *impl.Head) { h.Cuts = nil },
		"Own":           func(h *impl.Head) { h.Own[0], h.Own[1] = 3, 0 },
		"no Own":        func(h *impl.Head) { h.Own = nil },
		"Labels":        func(h *impl.Head) { h.Labels[0] = countTo(4) },
		"Nums":          func(h *impl.Head) { h.Nums[1] = 77 },
		"N":             func(h *impl.Head) { h.N = 9 },
		"a Task":        func(h *impl.Head) { h.Task.Shard = 1 },
		"Said alone":    func(h *impl.Head) { *h = impl.Head{Said: h.Said} },
		"another world": func(h *impl.Head) { said := h.Said; *h = newHeadByHand(9, 3); h.Said = said },
	} {
		if w := changedWorld(settled(t), func(w *impl.World) { change(&w.Head) }); !impl.Sound(w) || !soundByWords(w) {
			t.Errorf("%s: a settled world is not sound", why)
		}
	}
	for why, change := range map[string]func(h *impl.Head){
		"nothing Said":     func(h *impl.Head) { h.Said = nil },
		"less is Said":     func(h *impl.Head) { h.Said = h.Said[:6] },
		"more is Said":     func(h *impl.Head) { h.Said = append(h.Said, saidOf(askOf(99, 9, 0, 0), impl.SayBad)) },
		"a Say is turned":  func(h *impl.Head) { h.Said[6].Say = impl.SayYes },
		"an Id is turned":  func(h *impl.Head) { h.Said[0].Id = 99 },
		"a question":       func(h *impl.Head) { h.Said[5].Ask.A = 1 },
		"a place":          func(h *impl.Head) { h.Said[3], h.Said[4] = h.Said[4], h.Said[3] },
		"no head":          func(h *impl.Head) { *h = impl.Head{} },
		"of other ones":    func(h *impl.Head) { h.Said = someSaid() },
		"one is put twice": func(h *impl.Head) { h.Said = append(h.Said, h.Said[6]) },
	} {
		w := changedWorld(settled(t), func(w *impl.World) { change(&w.Head) })
		if impl.Sound(w) || soundByWords(w) {
			t.Errorf("%s: a head that is up has not Said what the records lead to, and is sound", why)
		}
		if w.Up[2] = false; impl.Sound(w) || soundByWords(w) {
			t.Errorf("%s: with a shard down it is sound", why)
		}
		if w.Up = []bool{false, true, true}; !impl.Sound(w) || !soundByWords(w) {
			t.Errorf("%s: with the head down it is not sound", why)
		}
	}
}

// A head that fell behind its record has Said less than was decided; the call is told when it comes up.
func TestSoundOfAHeadThatIsDownAndHasSaidLess(t *testing.T) {
	for _, c := range writers() {
		last := len(c.life) - 1
		for _, left := range []int{0, 5, 12, 17, 1000} {
			cut := eventList(c.life[:last], []impl.Event{evCut(c.life[last], left)})
			w, _ := wantLived(t, c.name, 4, 2, cut)
			if !impl.Sound(w) || !soundByWords(w) {
				t.Fatalf("%s: cut, with %d left, the world is not sound: %s", c.name, left, tell(w))
			}
			up, _ := wantLived(t, c.name, 4, 2, eventList(cut, []impl.Event{evUp(c.node)}))
			if !impl.Sound(up) || !soundByWords(up) {
				t.Fatalf("%s: up again, with %d left, the world is not sound: %s", c.name, left, tell(up))
			}
		}
	}
	w := wantMore(t, "cut", nil, []impl.Event{evCut(evAsk(1, impl.AskAdd, 0, 1), 1000)}, 3)
	if decided, ok := impl.Decided(4, 2, w.Done); !ok || len(decided) != 1 || len(w.Head.Said) != 0 || !impl.Sound(w) {
		t.Errorf("decided is %v, Said %v", decided, w.Head.Said)
	}
}

func TestSoundOfUps(t *testing.T) {
	for _, was := range append(moving(t), settled(t)) {
		for count := range 9 {
			for _, up := range []bool{true, false} {
				w := changedWorld(was, func(w *impl.World) { w.Up = slices.Repeat([]bool{up}, count) })
				if want := count == 3; impl.Sound(w) != want || soundByWords(w) != want {
					t.Errorf("with %d of Up, each %v, it is sound: %v", count, up, !want)
				}
			}
		}
	}
	for count := range 6 { // as many as that are no shards of a head
		w := impl.World{N: 4, Up: slices.Repeat([]bool{true}, count+1)}
		for id := range count {
			w.Shards = append(w.Shards, shardOf(id+1, webOf(4), impl.Answer{}))
		}
		if want := count >= 1 && count <= 3; impl.Sound(w) != want || soundByWords(w) != want {
			t.Errorf("with %d shards it is sound: %v", count, !want)
		}
	}
	for _, n := range append(numbersOutOf(1, impl.MaxVerts), 0, 1, impl.MaxVerts) {
		w := changedWorld(newWorldByHand(4, 2), func(w *impl.World) { w.N = n })
		if want := n >= 1 && n <= 12; impl.Sound(w) != want || soundByWords(w) != want {
			t.Errorf("with N of %d it is sound: %v", n, !want)
		}
	}
}

// Done with one record too few, too many, turned: as the words have it, and by hand where it must be told.
func TestSoundOfRecords(t *testing.T) {
	w := settled(t)
	for at := range w.Done {
		less := changedWorld(w, func(w *impl.World) { w.Done = slices.Delete(w.Done, at, at+1) })
		wantWatch(t, fmt.Sprint("without the record ", at), less, watch{once: true, agrees: true})
		twice := changedWorld(w, func(w *impl.World) { w.Done = slices.Insert(w.Done, at, w.Done[at]) })
		wantWatch(t, fmt.Sprint("twice the record ", at), twice, watch{once: true, agrees: true})
		if at > 0 {
			swapped := changedWorld(w, func(w *impl.World) { w.Done[at], w.Done[at-1] = w.Done[at-1], w.Done[at] })
			wantWatch(t, fmt.Sprint("the record at ", at, " ahead of its place"), swapped, watch{once: true, agrees: true})
		}
	}
	for why, change := range map[string]func(w *impl.World){
		"none":                 func(w *impl.World) { w.Done = nil },
		"one of a shard":       func(w *impl.World) { w.Done = append(w.Done, obeyRec(orderOf(1, impl.OrderRelease, 0))) },
		"one of no Kind":       func(w *impl.World) { w.Done = append(w.Done, impl.Rec{}) },
		"one of nobody":        func(w *impl.World) { w.Done = append(w.Done, hearRec(1, w.Done[1].Answer)) },
		"one more that is bad": func(w *impl.World) { w.Done = append(w.Done, takeRec(99, 9, 0, 0)) },
		"another question":     func(w *impl.World) { w.Done[0].Ask.Op = impl.AskTake },
		"another answer":       func(w *impl.World) { w.Done[1].Answer.Ok = false },
		"an answer of others":  func(w *impl.World) { w.Done[1].Shard = 2 },
	} {
		wantWatch(t, why, changedWorld(w, change), watch{once: true, agrees: true})
	}
	wantWatch(t, "other labels", changedWorld(w, func(w *impl.World) { w.Done[1].Answer.Labels = countTo(4) }), watch{once: true, agrees: true})
	wantWatch(t, "a Task is not Said yet", changedWorld(w, func(w *impl.World) { w.Done = append(w.Done, takeRec(99, impl.AskMove, 0, 2)) }), allHold)
	taken := moving(t)[0]
	wantWatch(t, "a Task is not known yet", changedWorld(taken, func(w *impl.World) { w.Done = w.Done[:len(w.Done)-1] }), allHold)
	obeyed := moving(t)[2]
	wantWatch(t, "a Task that is done is not known", changedWorld(obeyed, func(w *impl.World) { w.Done = w.Done[:len(w.Done)-1] }), watch{once: true, agrees: true})
}

// In a drawn life the world behind each event is sound, whoever is up or down; of each the watchers tell what the words tell.
func TestDrawnLivesAreSound(t *testing.T) {
	drawn, up, down, busy := drawnNumber(155), 0, 0, 0
	for at := range 120 {
		n, shards := 1+at%12, 1+at/12%3
		events, worlds, _ := drawn.livedEvents(n, shards, impl.MaxLife)
		for count, w := range worlds {
			if count%7 == 0 {
				w, _, _ = impl.RunCluster(n, shards, events[:count])
			}
			if !impl.Sound(w) {
				t.Fatalf("behind %d events the world is not sound: %s", count, tell(w))
			}
			said, ok := impl.Decided(n, shards, w.Done)
			if !ok || !impl.Follows(n, said) || !impl.InTime(w.Calls, said) {
				t.Fatalf("decided is %v, %v; the calls are %v", said, ok, w.Calls)
			}
			switch {
			case slices.Contains(w.Up, false):
				down++
			case !impl.Once(w) || !impl.Agrees(w):
				t.Fatalf("all are up, and edges are not kept once, or do not agree: %s", tell(w))
			case impl.Busy(w.Head):
				busy++
			default:
				up++
			}
			if count%5 == 0 {
				wantWatchByWords(t, "of a life", w)
			}
		}
	}
	if min(up, down, busy) < 1000 {
		t.Errorf("%d worlds were free, %d busy, in %d some were down", up, busy, down)
	}
}

// Behind Rest each call is told, nobody is Busy, and the world is sound.
func TestDrawnLivesAreSoundAtRest(t *testing.T) {
	drawn, open := drawnNumber(156), 0
	for at := range 150 {
		n, shards := 1+at%12, 1+at/12%3
		events, _, _ := drawn.livedEvents(n, shards, impl.MaxLife)
		w, _, _ := impl.RunCluster(n, shards, events)
		for _, c := range w.Calls {
			if c.Told == -1 {
				open++
			}
		}
		for rounds := range 4 {
			if rested := impl.Rest(w, rounds); !impl.Sound(rested) {
				t.Fatalf("behind %d rounds the world is not sound: %s", rounds, tell(rested))
			}
		}
		rested := impl.Rest(w, 400)
		wantAtRest(t, "drawn", rested)
		wantWatch(t, "at rest", rested, allHold)
		wantWatchByWords(t, "at rest", rested)
		if impl.Busy(rested.Head) || !impl.Follows(n, rested.Head.Said) || !impl.InTime(rested.Calls, rested.Head.Said) {
			t.Fatalf("at rest the world is %s", tell(rested))
		}
	}
	if open < 150 {
		t.Errorf("only %d calls were open at the end of a life", open)
	}
}

// What is answered is in time, also where calls wait: an order of Said that does not fit when was asked and told is not.
func TestDrawnLivesWithSaidInAnotherOrder(t *testing.T) {
	drawn, late := drawnNumber(157), 0
	for at := range 100 {
		n, shards := 2+at%11, 1+at/12%3
		events, _, _ := drawn.livedEvents(n, shards, impl.MaxLife)
		w, _, _ := impl.RunCluster(n, shards, events)
		w = impl.Rest(w, 100)
		for range 10 {
			said := mixed(&drawn, w.Head.Said)
			want := inTimeByWords(w.Calls, said)
			if wantInTime(t, "mixed", w.Calls, said, want); !want {
				late++
			}
			wantFollows(t, "mixed", n, said, followsByWords(n, said))
		}
	}
	if late < 300 {
		t.Errorf("only %d orders were not in time", late)
	}
}

// spoiltWorld is a world with one thing changed; kind tells what.
func (n *drawnNumber) spoiltWorld(was impl.World, kind int) impl.World {
	return changedWorld(was, func(w *impl.World) {
		switch kind {
		case 0:
			w.Up[n.below(len(w.Up))] = n.below(2) == 0
		case 1:
			w.Up = slices.Repeat([]bool{true}, n.below(6))
		case 2, 3:
			w.Done = n.spoiltDone(w.Done)
		case 4:
			w.Head.Said = n.spoiltSaid(w.Head.Said)
		case 5, 6:
			n.spoilCalls(w)
		case 7, 8:
			n.spoilWebs(w)
		case 9:
			w.Head.Cuts = n.spoiltEdges(w.N, w.Head.Cuts)
		case 10:
			w.Head.Own[n.below(len(w.Head.Own))] = n.below(5)
		case 11:
			labels := w.Head.Labels[n.below(len(w.Head.Labels))]
			labels[n.below(len(labels))] = n.below(len(labels))
		case 12:
			w.Head.Task.Shard = n.below(4)
		case 13:
			w.Head.Task.Ask.Op = n.below(6)
		case 14:
			w.N = n.below(15) - 1
		default:
			w.Shards[n.below(len(w.Shards))].Id = n.below(5)
		}
	})
}

func (n *drawnNumber) spoiltEdges(verts int, edges []impl.Edge) []impl.Edge {
	c := slices.Clone(edges)
	if len(c) > 0 && n.below(3) > 0 {
		at := n.below(len(c))
		switch n.below(3) {
		case 0:
			return slices.Delete(c, at, at+1)
		case 1:
			return append(c, c[at])
		}
		c[at] = edge(c[at].B, c[at].A)
		return c
	}
	return append(c, edge(n.below(verts), n.below(verts)))
}

func (n *drawnNumber) spoilWebs(w *impl.World) {
	from, to := &w.Shards[n.below(len(w.Shards))], &w.Shards[n.below(len(w.Shards))]
	if len(from.Web.Edges) == 0 || n.below(4) == 0 {
		to.Web.Edges = append(to.Web.Edges, inForest(n.below(w.N), n.below(w.N), 0))
		return
	}
	at := n.below(len(from.Web.Edges))
	l := from.Web.Edges[at]
	if n.below(2) == 0 {
		from.Web.Edges = slices.Delete(from.Web.Edges, at, at+1)
	}
	switch n.below(3) {
	case 0:
		to.Web.Edges = append(to.Web.Edges, l)
	case 1:
		w.Head.Cuts = append(w.Head.Cuts, edgeOfLedge(l))
	}
}

func (n *drawnNumber) spoilCalls(w *impl.World) {
	if len(w.Calls) == 0 {
		w.Calls = append(w.Calls, callOf(n.below(3), n.below(9), n.below(9)-1, n.below(4)))
		return
	}
	c := &w.Calls[n.below(len(w.Calls))]
	switch n.below(6) {
	case 0:
		c.Told = -1
	case 1:
		c.Told = n.below(impl.MaxLife)
	case 2:
		c.When = n.below(impl.MaxLife)
	case 3:
		c.Say = n.below(5)
	case 4:
		c.Ask.Id = n.below(impl.MaxLife)
	default:
		w.Calls = append(w.Calls, *c)
	}
}

func (n *drawnNumber) spoiltDone(recs []impl.Rec) []impl.Rec {
	if len(recs) == 0 {
		return []impl.Rec{takeRec(1+n.below(9), n.below(6), n.below(4), n.below(4))}
	}
	at, c := n.below(len(recs)), slices.Clone(recs)
	switch n.below(7) {
	case 0:
		return c[:len(c)-1]
	case 1:
		return slices.Delete(c, at, at+1)
	case 2:
		return slices.Insert(c, at, c[n.below(len(c))])
	case 3:
		other := n.below(len(c))
		c[at], c[other] = c[other], c[at]
	case 4:
		c[at].Answer.Ok = !c[at].Answer.Ok
	case 5:
		c[at].Ask.A, c[at].Ask.B = c[at].Ask.B, c[at].Ask.A
	default:
		return append(c, takeRec(impl.MaxNum, n.below(6), n.below(4), n.below(4)))
	}
	return c
}

func TestSpoiltWorldsAsTheWordsHaveThem(t *testing.T) {
	const kinds = 16
	drawn, told := drawnNumber(158), map[string]int{}
	for at := range 90 {
		n, shards := 1+at%12, 1+at/12%3
		_, worlds, _ := drawn.livedEvents(n, shards, impl.MaxLife)
		for _, w := range worlds[at%4:] {
			if drawn.below(3) > 0 {
				continue
			}
			for kind := range kinds {
				spoilt := drawn.spoiltWorld(w, kind)
				if drawn.below(3) == 0 {
					spoilt = drawn.spoiltWorld(w, drawn.below(kinds))
				}
				got := wantWatchByWords(t, fmt.Sprint("spoilt by ", kind), spoilt)
				told[fmt.Sprint("once ", got.once)]++
				told[fmt.Sprint("agrees ", got.agrees)]++
				told[fmt.Sprint("sound ", got.sound)]++
			}
		}
	}
	for _, why := range []string{"once true", "once false", "agrees true", "agrees false", "sound true", "sound false"} {
		if told[why] < 1000 {
			t.Errorf("so often was told: %v", told)
		}
	}
}

func callsWithin(calls []impl.Call) []impl.Call { return within(calls, impl.Call{When: 77}) }

func saidWithin(said []impl.Said) []impl.Said {
	return within(said, saidOf(askOf(77, 77, 77, 77), 77))
}

func wantModelApart(t *testing.T, was impl.Graph, a impl.Ask) {
	t.Helper()
	fill := edge(77, 78)
	g := impl.Graph{N: was.N, Edges: within(was.Edges, fill)}
	one, say := impl.Model(g, a)
	two, again := impl.Model(g, a)
	want := slices.Clone(two.Edges)
	wantApart(t, "the graph and what Model makes of it", g.Edges, one.Edges, two.Edges)
	spoil(one.Edges, edge(99, 99))
	if wantListUntouched(t, g.Edges, was.Edges, fill); say != again || !slices.Equal(two.Edges, want) {
		t.Fatalf("Model(%v, %v) says %d, then %d", was, a, say, again)
	}
}

func TestModelLeavesItsGraphAlone(t *testing.T) {
	graphs := append(everyFew(everySmallGraph(), 9), everyFew(drawnGraphs(), 40)...)
	for _, g := range wrongGraphs() {
		graphs = append(graphs, g)
	}
	for _, g := range graphs {
		for op := range 6 {
			for a := range 3 {
				for b := range 4 {
					wantModelApart(t, g, askOf(1, op, a, b))
				}
			}
		}
	}
}

func TestDecidedLeavesRecordsAlone(t *testing.T) {
	drawn, fill := drawnNumber(159), saidOf(askOf(99, 99, 99, 99), 99)
	for at := range 36 {
		n, shards := 1+at%12, 1+at/12%3
		d := drawn.lived(n, shards, 12)
		for _, page := range [][]impl.Rec{d.pages[0], d.pages[1], nil, drawn.spoiltPage(d.pages[0], d.pages[1])} {
			recs := recsWithin(page)
			one, ok := impl.Decided(n, shards, recs)
			want := slices.Clone(one)
			two, again := impl.Decided(n, shards, recs)
			wantApart(t, "what is decided", one, two)
			spoil(one, fill)
			if wantRecsUntouched(t, recs, page); ok != again || !slices.Equal(two, want) {
				t.Fatalf("Decided answers %v, %v, and then %v, %v", want, ok, two, again)
			}
		}
	}
}

func TestWatchersLeaveWorldsAlone(t *testing.T) {
	drawn := drawnNumber(160)
	watched := []impl.World{{}, settled(t), lies(t)}
	watched = append(watched, moving(t)...)
	for at := range 36 {
		_, worlds, _ := drawn.livedEvents(1+at%12, 1+at/12%3, 40)
		for _, w := range everyFew(worlds, 5) {
			watched = append(watched, w, drawn.spoiltWorld(w, drawn.below(16)))
		}
	}
	for _, was := range watched {
		w, calls, said := worldWithin(was), callsWithin(was.Calls), saidWithin(was.Head.Said)
		got := watch{impl.Once(w), impl.Agrees(w), impl.Sound(w)}
		follows, inTime := impl.Follows(w.N, said), impl.InTime(calls, said)
		wantWorldUntouched(t, w, was)
		wantListUntouched(t, calls, was.Calls, impl.Call{When: 77})
		wantListUntouched(t, said, was.Head.Said, saidOf(askOf(77, 77, 77, 77), 77))
		if again := (watch{impl.Once(w), impl.Agrees(w), impl.Sound(w)}); again != got || impl.Follows(w.N, said) != follows || impl.InTime(calls, said) != inTime {
			t.Fatalf("asked twice, it is %+v, then %+v", got, again)
		}
	}
}
