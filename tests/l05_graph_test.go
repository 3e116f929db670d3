package tests

import (
	"math"
	"slices"
	"testing"

	"loop.example/g00130/impl"
)

// edge is short for lists of edges by hand; it asks for no order of its ends.
func edge(a, b int) impl.Edge { return impl.Edge{A: a, B: b} }

func turned(e impl.Edge) impl.Edge { return edge(e.B, e.A) }

func graphOf(n int, edges ...impl.Edge) impl.Graph { return impl.Graph{N: n, Edges: edges} }

func sameGraph(a, b impl.Graph) bool { return a.N == b.N && slices.Equal(a.Edges, b.Edges) }

// allEdges are those that n vertices may have, in order.
func allEdges(n int) []impl.Edge {
	edges := []impl.Edge{}
	for a := range n {
		for b := a + 1; b < n; b++ {
			edges = append(edges, edge(a, b))
		}
	}
	return edges
}

// pickedGraph has those of allEdges whose bits are set.
func pickedGraph(n int, bits int) impl.Graph {
	g := impl.Graph{N: n}
	for i, e := range allEdges(n) {
		if bits>>i&1 == 1 {
			g.Edges = append(g.Edges, e)
		}
	}
	return g
}

// everySmallGraph has each graph of at most five vertices.
func everySmallGraph() []impl.Graph {
	graphs := []impl.Graph{}
	for n := 1; n <= 5; n++ {
		for bits := range 1 << len(allEdges(n)) {
			graphs = append(graphs, pickedGraph(n, bits))
		}
	}
	return graphs
}

// graph is drawn with more or less edges, so that some fall apart into many parts and some into none.
func (n *drawnNumber) graph(verts int) impl.Graph {
	g, share := impl.Graph{N: verts}, 1+n.below(15)
	for _, e := range allEdges(verts) {
		if n.below(16) < share && n.below(16) < share {
			g.Edges = append(g.Edges, e)
		}
	}
	return g
}

func drawnGraphs() []impl.Graph {
	drawn, graphs := drawnNumber(5), []impl.Graph{}
	for i := range 600 {
		graphs = append(graphs, drawn.graph(6+i%(impl.MaxVerts-5)))
	}
	return graphs
}

// graphOkByWords goes through the edges that there may be, in order: a right graph has just some of these.
func graphOkByWords(g impl.Graph) bool {
	if g.N < 1 || g.N > impl.MaxVerts || len(g.Edges) > impl.MaxEdges {
		return false
	}
	some := []impl.Edge{}
	for _, e := range allEdges(g.N) {
		if slices.Contains(g.Edges, e) {
			some = append(some, e)
		}
	}
	return slices.Equal(some, g.Edges)
}

// labelsByWords lets each vertex reach more and more, until nothing more is reached.
func labelsByWords(g impl.Graph) []int {
	if !graphOkByWords(g) {
		return nil
	}
	reached := make([][impl.MaxVerts]bool, g.N)
	for v := range g.N {
		reached[v][v] = true
	}
	for range g.N {
		for v := range g.N {
			for _, e := range g.Edges {
				either := reached[v][e.A] || reached[v][e.B]
				reached[v][e.A], reached[v][e.B] = either, either
			}
		}
	}
	labels := []int{}
	for v := range g.N {
		labels = append(labels, slices.Index(reached[v][:], true))
	}
	return labels
}

func aroundByWords(g impl.Graph, v int) []int {
	around := []int{}
	for other := range g.N {
		if slices.Contains(g.Edges, edge(v, other)) || slices.Contains(g.Edges, edge(other, v)) {
			around = append(around, other)
		}
	}
	return around
}

// wrongGraphs break one rule each; in all of them the edge of 0 and 1 stands.
func wrongGraphs() map[string]impl.Graph {
	tooMany := append(allEdges(impl.MaxVerts)[:2:2], allEdges(impl.MaxVerts)[1:]...)
	return map[string]impl.Graph{
		"N of 0":                  graphOf(0, edge(0, 1)),
		"N below 0":               graphOf(-1, edge(0, 1)),
		"N far below 0":           graphOf(math.MinInt, edge(0, 1)),
		"N above MaxVerts":        graphOf(impl.MaxVerts+1, edge(0, 1)),
		"N far above":             graphOf(math.MaxInt, edge(0, 1)),
		"N of 1 with an edge":     graphOf(1, edge(0, 1)),
		"an edge twice":           graphOf(4, edge(0, 1), edge(0, 1)),
		"an edge twice, later":    graphOf(4, edge(0, 1), edge(1, 2), edge(1, 2)),
		"an edge twice, apart":    graphOf(4, edge(0, 1), edge(1, 2), edge(0, 1)),
		"out of order by A":       graphOf(4, edge(1, 2), edge(0, 1)),
		"out of order by A, last": graphOf(4, edge(0, 1), edge(2, 3), edge(1, 3)),
		"out of order by B":       graphOf(4, edge(0, 2), edge(0, 1)),
		"out of order by B, last": graphOf(4, edge(0, 1), edge(1, 3), edge(1, 2)),
		"ascending by B alone":    graphOf(4, edge(0, 1), edge(1, 2), edge(0, 3)),
		"the other way round":     graphOf(4, edge(0, 1), edge(3, 2)),
		"both ways":               graphOf(4, edge(0, 1), edge(1, 0)),
		"of a vertex with itself": graphOf(4, edge(0, 0), edge(0, 1)),
		"itself, in the end":      graphOf(4, edge(0, 1), edge(3, 3)),
		"an end below 0":          graphOf(4, edge(-1, 2), edge(0, 1)),
		"both ends below 0":       graphOf(4, edge(-2, -1), edge(0, 1)),
		"an end far below 0":      graphOf(4, edge(math.MinInt, 0), edge(0, 1)),
		"an end of N":             graphOf(4, edge(0, 1), edge(0, 4)),
		"an end of N, last":       graphOf(4, edge(0, 1), edge(2, 3), edge(3, 4)),
		"both ends above":         graphOf(4, edge(0, 1), edge(5, 6)),
		"an end far above":        graphOf(4, edge(0, 1), edge(1, math.MaxInt)),
		"one edge too many":       {N: impl.MaxVerts, Edges: tooMany},
	}
}

func TestLimitsOfGraphs(t *testing.T) {
	if impl.MaxVerts != 12 || impl.MaxEdges != 66 || len(allEdges(impl.MaxVerts)) != impl.MaxEdges {
		t.Errorf("MaxVerts is %d, MaxEdges %d", impl.MaxVerts, impl.MaxEdges)
	}
}

func TestEdgeOk(t *testing.T) {
	numbers := []int{math.MinInt, -impl.MaxVerts, -2, -1, impl.MaxVerts + 1, impl.MaxVerts + 2, 100, math.MaxInt}
	for v := range impl.MaxVerts + 1 {
		numbers = append(numbers, v)
	}
	for _, n := range numbers {
		right := []impl.Edge{}
		if n >= 1 && n <= impl.MaxVerts {
			right = allEdges(n)
		}
		for _, a := range numbers {
			for _, b := range numbers {
				if want := slices.Contains(right, edge(a, b)); impl.EdgeOk(n, edge(a, b)) != want {
					t.Errorf("EdgeOk(%d, %d and %d) is %v", n, a, b, !want)
				}
			}
		}
	}
}

func TestEdgeOkByHand(t *testing.T) {
	for _, c := range []struct {
		n    int
		e    impl.Edge
		want bool
	}{
		{0, edge(0, 1), false}, {1, edge(0, 0), false}, {1, edge(0, 1), false}, {2, edge(0, 1), true},
		{12, edge(0, 11), true}, {12, edge(10, 11), true}, {12, edge(11, 12), false}, {12, edge(0, 12), false},
		{13, edge(0, 1), false}, {13, edge(0, 12), false}, {5, edge(3, 3), false}, {5, edge(3, 1), false},
		{5, edge(1, 3), true}, {5, edge(-1, 3), false}, {5, edge(3, 4), true}, {5, edge(3, 5), false},
	} {
		if impl.EdgeOk(c.n, c.e) != c.want {
			t.Errorf("EdgeOk(%d, %v) is %v", c.n, c.e, !c.want)
		}
	}
}

func TestGraphOk(t *testing.T) {
	for what, g := range map[string]impl.Graph{
		"N of 1":               graphOf(1),
		"N of 1, no list":      {N: 1, Edges: []impl.Edge{}},
		"N of MaxVerts":        graphOf(impl.MaxVerts),
		"one edge":             graphOf(2, edge(0, 1)),
		"of the last vertices": graphOf(impl.MaxVerts, edge(10, 11)),
		"B less than ahead":    graphOf(5, edge(0, 4), edge(1, 2)),
		"all edges":            graphOf(impl.MaxVerts, allEdges(impl.MaxVerts)...),
		"all edges but one":    graphOf(impl.MaxVerts, allEdges(impl.MaxVerts)[1:]...),
	} {
		if !impl.GraphOk(g) {
			t.Errorf("%s: the graph is not right", what)
		}
	}
	for what, g := range wrongGraphs() {
		if impl.GraphOk(g) {
			t.Errorf("%s: the graph is right", what)
		}
	}
	for _, n := range []int{math.MinInt, -1, 0, impl.MaxVerts + 1, math.MaxInt} {
		if impl.GraphOk(graphOf(n)) {
			t.Errorf("a graph with N of %d and no edges is right", n)
		}
	}
}

func TestGraphOkOfEveryShortList(t *testing.T) {
	ends := []impl.Edge{}
	for a := -1; a <= 4; a++ {
		for b := -1; b <= 4; b++ {
			ends = append(ends, edge(a, b))
		}
	}
	for _, first := range ends {
		for _, second := range ends {
			for _, third := range ends {
				for n := 1; n <= 4; n++ {
					g := graphOf(n, first, second, third)
					if want := graphOkByWords(g); impl.GraphOk(g) != want {
						t.Fatalf("GraphOk(%v) is %v", g, !want)
					}
				}
			}
		}
	}
}

func TestGraphOkOfMovedEdges(t *testing.T) {
	all := allEdges(impl.MaxVerts)
	for at := range len(all) - 1 { // each wrong place is told, the last one too
		moved, twice := slices.Clone(all), slices.Clone(all)
		moved[at], moved[at+1] = moved[at+1], moved[at]
		twice[at] = twice[at+1]
		if impl.GraphOk(graphOf(impl.MaxVerts, moved...)) || impl.GraphOk(graphOf(impl.MaxVerts, twice...)) {
			t.Errorf("a graph is right whose edges are out of order, or twice, at %d", at)
		}
	}
	for at := range all {
		round := slices.Clone(all)
		round[at] = turned(round[at])
		if impl.GraphOk(graphOf(impl.MaxVerts, round...)) {
			t.Errorf("a graph is right whose edge at %d is the other way round", at)
		}
	}
}

func TestHasEdge(t *testing.T) {
	for _, g := range append(everySmallGraph(), drawnGraphs()...) {
		for _, e := range allEdges(g.N) {
			if want := slices.Contains(g.Edges, e); impl.HasEdge(g, e) != want {
				t.Fatalf("HasEdge(%v, %v) is %v", g, e, !want)
			}
			if impl.HasEdge(g, turned(e)) {
				t.Fatalf("HasEdge(%v, %v) is true of an edge the other way round", g, turned(e))
			}
		}
		for _, e := range []impl.Edge{edge(0, 0), edge(-1, 0), edge(0, g.N), edge(g.N, g.N+1), edge(math.MinInt, math.MaxInt)} {
			if impl.HasEdge(g, e) {
				t.Fatalf("HasEdge(%v, %v) is true of an edge of no two vertices", g, e)
			}
		}
	}
}

// HasEdge asks for no right graph: the edge is one of the Edges, or it is not.
func TestHasEdgeOfWrongGraphs(t *testing.T) {
	for what, g := range wrongGraphs() {
		for _, e := range append(allEdges(4), g.Edges...) {
			if want := slices.Contains(g.Edges, e); impl.HasEdge(g, e) != want {
				t.Errorf("%s: HasEdge(%v, %v) is %v", what, g, e, !want)
			}
		}
	}
}

func wantAdded(t *testing.T, g impl.Graph, e impl.Edge, want impl.Graph) {
	t.Helper()
	if got, ok := impl.AddEdge(g, e); !ok || !sameGraph(got, want) {
		t.Fatalf("AddEdge(%v, %v) = %v, %v; want %v, true", g, e, got, ok, want)
	}
}

func wantNotAdded(t *testing.T, g impl.Graph, e impl.Edge, why string) {
	t.Helper()
	if got, ok := impl.AddEdge(g, e); ok || !sameGraph(got, impl.Graph{}) {
		t.Fatalf("AddEdge(%v, %v) (%s) = %v, %v; want a zero graph, false", g, e, why, got, ok)
	}
}

func wantTaken(t *testing.T, g impl.Graph, e impl.Edge, want impl.Graph) {
	t.Helper()
	if got, ok := impl.TakeEdge(g, e); !ok || !sameGraph(got, want) {
		t.Fatalf("TakeEdge(%v, %v) = %v, %v; want %v, true", g, e, got, ok, want)
	}
}

func wantNotTaken(t *testing.T, g impl.Graph, e impl.Edge, why string) {
	t.Helper()
	if got, ok := impl.TakeEdge(g, e); ok || !sameGraph(got, impl.Graph{}) {
		t.Fatalf("TakeEdge(%v, %v) (%s) = %v, %v; want a zero graph, false", g, e, why, got, ok)
	}
}

func TestAddEdgeByHand(t *testing.T) {
	g := graphOf(5, edge(0, 2), edge(1, 2), edge(1, 4))
	wantAdded(t, graphOf(2), edge(0, 1), graphOf(2, edge(0, 1)))
	wantAdded(t, g, edge(0, 1), graphOf(5, edge(0, 1), edge(0, 2), edge(1, 2), edge(1, 4)))
	wantAdded(t, g, edge(0, 4), graphOf(5, edge(0, 2), edge(0, 4), edge(1, 2), edge(1, 4)))
	wantAdded(t, g, edge(1, 3), graphOf(5, edge(0, 2), edge(1, 2), edge(1, 3), edge(1, 4)))
	wantAdded(t, g, edge(2, 3), graphOf(5, edge(0, 2), edge(1, 2), edge(1, 4), edge(2, 3)))
	all := allEdges(impl.MaxVerts)
	wantAdded(t, graphOf(impl.MaxVerts, all[:65]...), all[65], graphOf(impl.MaxVerts, all...))
	for _, e := range g.Edges {
		wantNotAdded(t, g, e, "it is there")
	}
	for _, e := range []impl.Edge{edge(2, 0), edge(3, 0), edge(4, 1), edge(4, 3)} {
		wantNotAdded(t, g, e, "the other way round")
	}
	for _, e := range []impl.Edge{edge(0, 5), edge(4, 5), edge(5, 6), edge(-1, 0), edge(-2, -1), edge(math.MinInt, math.MaxInt), edge(0, math.MaxInt)} {
		wantNotAdded(t, g, e, "of no two vertices")
	}
	for v := range 5 {
		wantNotAdded(t, g, edge(v, v), "of a vertex with itself")
	}
	wantNotAdded(t, graphOf(1), edge(0, 1), "of one vertex alone")
}

func TestTakeEdgeByHand(t *testing.T) {
	g := graphOf(5, edge(0, 2), edge(1, 2), edge(1, 4))
	wantTaken(t, graphOf(2, edge(0, 1)), edge(0, 1), graphOf(2))
	wantTaken(t, g, edge(0, 2), graphOf(5, edge(1, 2), edge(1, 4)))
	wantTaken(t, g, edge(1, 2), graphOf(5, edge(0, 2), edge(1, 4)))
	wantTaken(t, g, edge(1, 4), graphOf(5, edge(0, 2), edge(1, 2)))
	all := allEdges(impl.MaxVerts)
	wantTaken(t, graphOf(impl.MaxVerts, all...), all[65], graphOf(impl.MaxVerts, all[:65]...))
	for _, e := range []impl.Edge{edge(0, 1), edge(0, 4), edge(1, 3), edge(3, 4)} {
		wantNotTaken(t, g, e, "it is not there")
		wantNotTaken(t, graphOf(5), e, "there is none")
	}
	for _, e := range g.Edges {
		wantNotTaken(t, g, turned(e), "the other way round")
	}
	for _, e := range []impl.Edge{edge(0, 5), edge(5, 6), edge(-1, 0), edge(0, 0), edge(math.MinInt, math.MaxInt)} {
		wantNotTaken(t, g, e, "of no two vertices")
	}
}

func TestAddAndTakeOfWrongGraphs(t *testing.T) {
	for what, g := range wrongGraphs() {
		for _, e := range append(allEdges(impl.MaxVerts), g.Edges...) {
			wantNotAdded(t, g, e, what)
			wantNotTaken(t, g, e, what)
		}
	}
	for _, n := range []int{math.MinInt, -1, 0, impl.MaxVerts + 1, math.MaxInt} {
		wantNotAdded(t, graphOf(n), edge(0, 1), "N is not right")
		wantNotTaken(t, graphOf(n), edge(0, 1), "N is not right")
	}
}

// An edge that comes and goes leaves the graph as it was.
func TestAnEdgeThatComesAndGoes(t *testing.T) {
	for _, g := range append(everySmallGraph(), drawnGraphs()...) {
		for _, e := range allEdges(g.N) {
			with, without := impl.Graph{N: g.N}, impl.Graph{N: g.N}
			for _, other := range allEdges(g.N) {
				if other == e || slices.Contains(g.Edges, other) {
					with.Edges = append(with.Edges, other)
				}
				if other != e && slices.Contains(g.Edges, other) {
					without.Edges = append(without.Edges, other)
				}
			}
			if slices.Contains(g.Edges, e) {
				wantNotAdded(t, g, e, "it is there")
				wantTaken(t, g, e, without)
				gone, _ := impl.TakeEdge(g, e)
				wantNotTaken(t, gone, e, "it is gone")
				wantAdded(t, gone, e, g)
			} else {
				wantNotTaken(t, g, e, "it is not there")
				wantAdded(t, g, e, with)
				come, _ := impl.AddEdge(g, e)
				wantNotAdded(t, come, e, "it has come")
				wantTaken(t, come, e, g)
			}
			wantNotAdded(t, g, turned(e), "the other way round")
			wantNotTaken(t, g, turned(e), "the other way round")
		}
	}
}

func TestEdgesThatComeAndGoForLong(t *testing.T) {
	drawn := drawnNumber(11)
	for n := 1; n <= impl.MaxVerts; n++ {
		g, there := impl.Graph{N: n}, map[impl.Edge]int{}
		for range 700 {
			e := edge(drawn.below(n), drawn.below(n))
			wantThere := e.A < e.B && there[e] == 0
			if next, ok := impl.AddEdge(g, e); ok != wantThere {
				t.Fatalf("AddEdge(%v, %v) is %v", g, e, ok)
			} else if ok {
				g, there[e] = next, 1
			}
			e = edge(drawn.below(n), drawn.below(n))
			if next, ok := impl.TakeEdge(g, e); ok != (there[e] == 1) {
				t.Fatalf("TakeEdge(%v, %v) is %v", g, e, ok)
			} else if ok {
				g, there[e] = next, 0
			}
			for _, e := range allEdges(n) {
				if impl.HasEdge(g, e) != (there[e] == 1) {
					t.Fatalf("HasEdge(%v, %v) is %v", g, e, there[e] == 0)
				}
			}
			if !graphOkByWords(g) || !impl.GraphOk(g) {
				t.Fatalf("%v is not right", g)
			}
		}
	}
}

func TestLabelsByHand(t *testing.T) {
	for _, c := range []struct {
		what string
		g    impl.Graph
		want []int
	}{
		{"one vertex", graphOf(1), []int{0}},
		{"no edges", graphOf(4), []int{0, 1, 2, 3}},
		{"one edge", graphOf(4, edge(1, 3)), []int{0, 1, 2, 1}},
		{"a chain", graphOf(4, edge(0, 1), edge(1, 2), edge(2, 3)), []int{0, 0, 0, 0}},
		{"a chain with the least at its end", graphOf(6, edge(0, 5), edge(1, 2), edge(2, 4), edge(3, 4), edge(3, 5)), []int{0, 0, 0, 0, 0, 0}},
		{"the same without the least", graphOf(6, edge(1, 2), edge(2, 4), edge(3, 4), edge(3, 5)), []int{0, 1, 1, 1, 1, 1}},
		{"two that meet late", graphOf(6, edge(0, 5), edge(1, 4), edge(2, 3), edge(3, 4), edge(4, 5)), []int{0, 0, 0, 0, 0, 0}},
		{"a ring", graphOf(5, edge(1, 2), edge(1, 4), edge(2, 3), edge(3, 4)), []int{0, 1, 1, 1, 1}},
		{"several parts", graphOf(8, edge(0, 6), edge(1, 3), edge(1, 7), edge(2, 5), edge(3, 7)), []int{0, 1, 2, 1, 4, 2, 0, 1}},
		{"a star of the last", graphOf(5, edge(0, 4), edge(1, 4), edge(2, 4), edge(3, 4)), []int{0, 0, 0, 0, 0}},
		{"all edges", graphOf(impl.MaxVerts, allEdges(impl.MaxVerts)...), make([]int, impl.MaxVerts)},
	} {
		if got := impl.Labels(c.g); !slices.Equal(got, c.want) {
			t.Errorf("%s: Labels(%v) = %v; want %v", c.what, c.g, got, c.want)
		}
	}
}

// Labels tell what edges tell.
func TestLabelsAndTogetherAndAround(t *testing.T) {
	for _, g := range append(everySmallGraph(), drawnGraphs()...) {
		want := labelsByWords(g)
		if got := impl.Labels(g); !slices.Equal(got, want) {
			t.Fatalf("Labels(%v) = %v; want %v", g, got, want)
		}
		for a := -2; a <= g.N+1; a++ {
			for b := -2; b <= g.N+1; b++ {
				are := a >= 0 && b >= 0 && a < g.N && b < g.N && want[a] == want[b]
				if impl.Together(g, a, b) != are {
					t.Fatalf("Together(%v, %d, %d) is %v", g, a, b, !are)
				}
			}
			if got, want := impl.Around(g, a), aroundByWords(g, a); !slices.Equal(got, want) {
				t.Fatalf("Around(%v, %d) = %v; want %v", g, a, got, want)
			}
		}
	}
}

// longChain goes from vertex to vertex in a drawn order, so that the least one is found behind several edges.
func (n *drawnNumber) longChain(verts int) (impl.Graph, []int) {
	order, g := []int{}, impl.Graph{N: verts}
	for v := range verts {
		order = slices.Insert(order, n.below(len(order)+1), v)
	}
	for _, e := range allEdges(verts) {
		if a, b := slices.Index(order, e.A), slices.Index(order, e.B); a-b == 1 || b-a == 1 {
			g.Edges = append(g.Edges, e)
		}
	}
	return g, order
}

func TestLabelsOfLongChains(t *testing.T) {
	drawn := drawnNumber(13)
	for range 500 {
		g, order := drawn.longChain(impl.MaxVerts)
		if got := impl.Labels(g); !slices.Equal(got, make([]int, impl.MaxVerts)) {
			t.Fatalf("Labels(%v) = %v; want noughts", g, got)
		}
		at := 1 + drawn.below(impl.MaxVerts-1) // ahead of this place the chain is broken
		broken, ok := impl.TakeEdge(g, edge(min(order[at-1], order[at]), max(order[at-1], order[at])))
		if !ok {
			t.Fatalf("an edge of the chain %v is not there", order)
		}
		least := []int{slices.Min(order[:at]), slices.Min(order[at:])}
		for place, v := range order {
			want := least[0]
			if place >= at {
				want = least[1]
			}
			if got := impl.Labels(broken); got[v] != want {
				t.Fatalf("Labels(%v) = %v; want %d for %d", broken, got, want, v)
			}
		}
	}
}

func TestTogetherByHand(t *testing.T) {
	g := graphOf(6, edge(0, 5), edge(1, 3), edge(3, 4))
	for _, c := range []struct {
		a, b int
		want bool
	}{
		{0, 0, true}, {2, 2, true}, {5, 5, true}, {0, 5, true}, {5, 0, true}, {1, 4, true}, {4, 1, true},
		{0, 1, false}, {4, 5, false}, {2, 0, false}, {3, 2, false},
		{-1, 0, false}, {0, -1, false}, {-1, -1, false}, {6, 6, false}, {0, 6, false}, {6, 0, false},
		{math.MinInt, math.MinInt, false}, {math.MaxInt, math.MaxInt, false}, {math.MinInt, 3, false}, {3, math.MaxInt, false},
	} {
		if impl.Together(g, c.a, c.b) != c.want {
			t.Errorf("Together(%v, %d, %d) is %v", g, c.a, c.b, !c.want)
		}
	}
	if !impl.Together(graphOf(1), 0, 0) || impl.Together(graphOf(1), 0, 1) {
		t.Error("of one vertex alone, it and itself hang together, and no other")
	}
}

func TestAroundByHand(t *testing.T) {
	g := graphOf(7, edge(0, 3), edge(0, 6), edge(1, 3), edge(2, 6), edge(3, 4), edge(3, 6))
	for v, want := range [][]int{{3, 6}, {3}, {6}, {0, 1, 4, 6}, {3}, {}, {0, 2, 3}} {
		if got := impl.Around(g, v); !slices.Equal(got, want) {
			t.Errorf("Around(%v, %d) = %v; want %v", g, v, got, want)
		}
	}
	for _, v := range []int{-1, 7, 12, math.MinInt, math.MaxInt} {
		if got := impl.Around(g, v); len(got) != 0 {
			t.Errorf("Around(%v, %d) = %v; want nothing", g, v, got)
		}
	}
}

func TestQuestionsOfWrongGraphs(t *testing.T) {
	for what, g := range wrongGraphs() {
		if got := impl.Labels(g); len(got) != 0 {
			t.Errorf("%s: Labels = %v; want nothing", what, got)
		}
		for a := -2; a <= impl.MaxVerts+1; a++ {
			for b := -2; b <= impl.MaxVerts+1; b++ {
				if impl.Together(g, a, b) {
					t.Errorf("%s: Together of %d and %d is true", what, a, b)
				}
			}
			if got := impl.Around(g, a); len(got) != 0 {
				t.Errorf("%s: Around %d = %v; want nothing", what, a, got)
			}
		}
	}
	for _, n := range []int{math.MinInt, -1, 0, impl.MaxVerts + 1, math.MaxInt} {
		if g := graphOf(n); len(impl.Labels(g)) != 0 || impl.Together(g, 0, 0) || len(impl.Around(g, 0)) != 0 {
			t.Errorf("a graph with N of %d answers something", n)
		}
	}
}

// within is the list, with fill in the spare room behind it.
func within[T any](list []T, fill T) []T {
	room := slices.Clone(list)
	for range 4 {
		room = append(room, fill)
	}
	return room[:len(list):len(room)]
}

// sharesRoom asks for the spare room of both lists too.
func sharesRoom[T any](one, other []T) bool {
	one, other = one[:cap(one)], other[:cap(other)]
	for i := range one {
		for j := range other {
			if &one[i] == &other[j] {
				return true
			}
		}
	}
	return false
}

// wantApart fails when two of the lists share memory.
func wantApart[T any](t *testing.T, what string, lists ...[]T) {
	t.Helper()
	for i, one := range lists {
		for _, other := range lists[:i] {
			if sharesRoom(one, other) {
				t.Fatalf("%s: lists %v and %v share memory", what, one, other)
			}
		}
	}
}

func TestGraphsLeaveArgumentsAlone(t *testing.T) {
	fill := edge(77, 78)
	graphs := append(everySmallGraph(), drawnGraphs()...)
	for _, g := range wrongGraphs() {
		graphs = append(graphs, g)
	}
	for _, was := range graphs {
		g := impl.Graph{N: was.N, Edges: within(was.Edges, fill)}
		edges, numbers := [][]impl.Edge{g.Edges}, [][]int{}
		for _, e := range append(allEdges(min(max(was.N, 0), 5)), was.Edges[:min(len(was.Edges), 4)]...) {
			added, _ := impl.AddEdge(g, e)
			taken, _ := impl.TakeEdge(g, e)
			impl.HasEdge(g, e)
			edges = append(edges, added.Edges, taken.Edges)
		}
		for v := range 5 {
			impl.Together(g, v, 0)
			numbers = append(numbers, impl.Labels(g), impl.Around(g, v))
		}
		impl.GraphOk(g)
		wantApart(t, "the graph and what AddEdge and TakeEdge answer", edges...)
		wantApart(t, "what Labels and Around answer", numbers...)
		if want := within(was.Edges, fill); !slices.Equal(g.Edges[:cap(g.Edges)], want[:len(was.Edges)+4]) {
			t.Fatalf("the edges, or the room behind them, are now %v", g.Edges[:cap(g.Edges)])
		}
	}
}
