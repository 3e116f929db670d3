package tests

import (
	"math"
	"slices"
	"testing"

	"loop.example/g00130/impl"
)

// inForest and beside are short for the edges of webs by hand; they ask for no order of the ends.
func inForest(a, b, level int) impl.Ledge { return impl.Ledge{A: a, B: b, Level: level, Tree: true} }

func beside(a, b, level int) impl.Ledge { return impl.Ledge{A: a, B: b, Level: level} }

func webOf(n int, edges ...impl.Ledge) impl.Web { return impl.Web{N: n, Edges: edges} }

func sameWeb(a, b impl.Web) bool { return a.N == b.N && slices.Equal(a.Edges, b.Edges) }

func isNoWeb(w impl.Web) bool { return w.N == 0 && len(w.Edges) == 0 }

func edgeOfLedge(l impl.Ledge) impl.Edge { return edge(l.A, l.B) }

// chainOf is a path along these vertices, all of its edges of the forest and of this Level.
func chainOf(level int, verts ...int) []impl.Ledge {
	edges := []impl.Ledge{}
	for i := 1; i < len(verts); i++ {
		edges = append(edges, inForest(min(verts[i-1], verts[i]), max(verts[i-1], verts[i]), level))
	}
	return edges
}

// sortedWeb has the edges of the lists, ascending; none of them stands there twice.
func sortedWeb(n int, lists ...[]impl.Ledge) impl.Web {
	w := impl.Web{N: n}
	for _, e := range allEdges(impl.MaxVerts) {
		for _, l := range slices.Concat(lists...) {
			if edgeOfLedge(l) == e {
				w.Edges = append(w.Edges, l)
			}
		}
	}
	return w
}

func graphByWords(w impl.Web) impl.Graph {
	g := impl.Graph{N: w.N}
	for _, l := range w.Edges {
		g.Edges = append(g.Edges, edgeOfLedge(l))
	}
	return g
}

// forestByWords has the edges of F(level), ascending, each once; it is for webs of right edges.
func forestByWords(w impl.Web, level int) impl.Graph {
	g := impl.Graph{N: w.N}
	for _, e := range allEdges(w.N) {
		if slices.ContainsFunc(w.Edges, func(l impl.Ledge) bool { return edgeOfLedge(l) == e && l.Tree && l.Level >= level }) {
			g.Edges = append(g.Edges, e)
		}
	}
	return g
}

// plantedByWords is F(level) as ForestAt tells it.
func plantedByWords(w impl.Web, level int) (impl.Forest, bool) {
	if w.N < 1 || w.N > impl.MaxVerts {
		return impl.Forest{}, false
	}
	trees := 0
	for _, l := range w.Edges {
		if !slices.Contains(allEdges(w.N), edgeOfLedge(l)) {
			return impl.Forest{}, false
		}
		if l.Tree {
			trees++
		}
	}
	all := forestByWords(w, math.MinInt)
	if hasRingByWords(all) || trees > len(all.Edges) { // one that stands there twice is a ring of its own
		return impl.Forest{}, false
	}
	g, f := forestByWords(w, level), impl.Forest{N: w.N}
	for v, label := range labelsByWords(g) {
		if v == label {
			f.Tours = append(f.Tours, tourByWords(g, v))
		}
	}
	return f, true
}

// sizeByWords is how many have this label.
func sizeByWords(labels []int, label int) int {
	size := 0
	for _, other := range labels {
		if other == label {
			size++
		}
	}
	return size
}

func webOkByWords(w impl.Web) bool {
	if !graphOkByWords(graphByWords(w)) || hasRingByWords(forestByWords(w, math.MinInt)) {
		return false
	}
	for _, l := range w.Edges {
		if l.Level < 0 || l.Level > 4 {
			return false
		}
		labels := labelsByWords(forestByWords(w, l.Level))
		if !l.Tree && labels[l.A] != labels[l.B] {
			return false
		}
	}
	for i, most := range []int{w.N, w.N / 2, w.N / 4, w.N / 8, w.N / 16} {
		labels := labelsByWords(forestByWords(w, i))
		for _, label := range labels {
			if size := sizeByWords(labels, label); size > 1 && size > most {
				return false
			}
		}
	}
	return true
}

// webByWords lays edges that are told by their ends into a web.
func webByWords(n int, told map[impl.Edge]impl.Ledge) impl.Web {
	w := impl.Web{N: n}
	for _, e := range allEdges(n) {
		if l, there := told[e]; there {
			w.Edges = append(w.Edges, l)
		}
	}
	return w
}

func toldByWords(w impl.Web) map[impl.Edge]impl.Ledge {
	told := map[impl.Edge]impl.Ledge{}
	for _, l := range w.Edges {
		told[edgeOfLedge(l)] = l
	}
	return told
}

// addedByWords is for right webs and edges that may come.
func addedByWords(w impl.Web, e impl.Edge) impl.Web {
	told, labels := toldByWords(w), labelsByWords(graphByWords(w))
	told[e] = impl.Ledge{A: e.A, B: e.B, Tree: labels[e.A] != labels[e.B]}
	return webByWords(w.N, told)
}

// takenByWords is for right webs and edges that are there.
func takenByWords(w impl.Web, e impl.Edge) (impl.Web, impl.Edge, bool) {
	told := toldByWords(w)
	lost := told[e]
	delete(told, e)
	if !lost.Tree {
		return webByWords(w.N, told), impl.Edge{}, false
	}
	for i := lost.Level; i >= 0; i-- {
		labels := labelsByWords(forestByWords(webByWords(w.N, told), i))
		side := labels[e.A]
		if sizeByWords(labels, labels[e.B]) < sizeByWords(labels, side) {
			side = labels[e.B]
		}
		for at, l := range told {
			if l.Tree && l.Level == i && labels[l.A] == side && labels[l.B] == side {
				told[at] = inForest(l.A, l.B, min(i+1, 4))
			}
		}
		for _, other := range allEdges(w.N) {
			l, there := told[other]
			if !there || l.Tree || l.Level != i {
				continue
			}
			if labels[l.A] == side && labels[l.B] == side {
				told[other] = beside(l.A, l.B, min(i+1, 4))
			} else if labels[l.A] == side || labels[l.B] == side {
				told[other] = inForest(l.A, l.B, i)
				return webByWords(w.N, told), other, true
			}
		}
	}
	return webByWords(w.N, told), impl.Edge{}, false
}

// everyWeb has each web whose edges are some of these, each of one of the Levels, of the forest or beside it.
func everyWeb(n int, edges []impl.Edge, levels ...int) []impl.Web {
	webs := []impl.Web{{N: n}}
	for _, e := range edges {
		for _, w := range slices.Clone(webs) {
			for _, level := range levels {
				webs = append(webs, webOf(n, append(slices.Clone(w.Edges), inForest(e.A, e.B, level))...),
					webOf(n, append(slices.Clone(w.Edges), beside(e.A, e.B, level))...))
			}
		}
	}
	return webs
}

// everySmallWeb has most that are not right, and each right one of at most four vertices.
func everySmallWeb() []impl.Web {
	webs := slices.Concat(everyWeb(1, nil), everyWeb(2, allEdges(2), -1, 0, 1, 2, 3, 4, 5), everyWeb(4, allEdges(4), 0, 1))
	return append(webs, everyWeb(3, allEdges(3), -1, 0, 1, 2, 3, 4, 5)...)
}

// web is drawn with any Levels that a right one may have, also such as no row of edges that come and go leads to.
func (n *drawnNumber) web(verts int) impl.Web {
	told := map[impl.Edge]impl.Ledge{}
	edges := n.graph(verts).Edges
	for _, at := range n.order(len(edges)) {
		e := edges[at]
		labels := labelsByWords(forestByWords(webByWords(verts, told), 0))
		for level := n.below(4); labels[e.A] != labels[e.B] && level >= 0; level-- {
			told[e] = inForest(e.A, e.B, level)
			if webOkByWords(webByWords(verts, told)) {
				break
			}
		}
	}
	trees := webByWords(verts, told)
	for _, e := range edges {
		if told[e].Tree {
			continue
		}
		level := n.below(4)
		for ; level > 0; level-- {
			if labels := labelsByWords(forestByWords(trees, level)); labels[e.A] == labels[e.B] {
				break
			}
		}
		told[e] = beside(e.A, e.B, level)
	}
	return webByWords(verts, told)
}

func drawnWebs() []impl.Web {
	drawn, webs := drawnNumber(8), []impl.Web{}
	for i := range 300 {
		webs = append(webs, drawn.web(min(5+i%12, impl.MaxVerts))) // most of all vertices, as these alone have edges beside the forest at Level 2
	}
	return webs
}

// rightWebs are right by the document's words.
func rightWebs() []impl.Web {
	webs := []impl.Web{}
	for _, w := range append(everySmallWeb(), drawnWebs()...) {
		if webOkByWords(w) {
			webs = append(webs, w)
		}
	}
	return webs
}

// wovenByWords lets the edges come in the order in which they stand, whatever their ends are.
func wovenByWords(g impl.Graph) impl.Web {
	w, trees := impl.Web{N: g.N}, map[int][]int{}
	for _, e := range g.Edges {
		for _, v := range []int{e.A, e.B} {
			if len(trees[v]) == 0 {
				trees[v] = []int{v}
			}
		}
		apart := !slices.Contains(trees[e.A], e.B)
		if apart {
			joined := slices.Concat(trees[e.A], trees[e.B])
			for _, v := range joined {
				trees[v] = joined
			}
		}
		w.Edges = append(w.Edges, impl.Ledge{A: e.A, B: e.B, Tree: apart})
	}
	return w
}

// wrongWebs break one rule each; in most of them the edge of 0 and 1 stands, and 2 is in no tree with it.
func wrongWebs() map[string]impl.Web {
	first := inForest(0, 1, 0)
	webs := map[string]impl.Web{
		"nothing":                              {},
		"N of 0":                               webOf(0),
		"N below 0":                            webOf(-1),
		"N far below 0":                        webOf(math.MinInt),
		"N above MaxVerts":                     webOf(impl.MaxVerts + 1),
		"N far above":                          webOf(math.MaxInt),
		"a Level of -1":                        webOf(12, inForest(0, 1, -1)),
		"a Level of -1, beside":                webOf(12, first, inForest(0, 2, 0), beside(1, 2, -1)),
		"a Level far below":                    webOf(12, inForest(0, 1, math.MinInt)),
		"a Level of 3, too high for 12":        webOf(12, inForest(0, 1, 3)),
		"a Level of MaxLevel":                  webOf(12, inForest(0, 1, impl.MaxLevel)),
		"a Level of MaxLevel, beside":          webOf(12, first, inForest(0, 2, 0), beside(1, 2, impl.MaxLevel)),
		"a Level above MaxLevel":               webOf(12, inForest(0, 1, impl.MaxLevel+1)),
		"a Level above MaxLevel, beside":       webOf(12, first, inForest(0, 2, 0), beside(1, 2, impl.MaxLevel+1)),
		"a Level far above":                    webOf(12, inForest(0, 1, math.MaxInt)),
		"a ring of one Level":                  webOf(12, first, inForest(0, 2, 0), inForest(1, 2, 0)),
		"a ring of one Level, higher":          webOf(12, inForest(0, 1, 1), inForest(0, 2, 1), inForest(1, 2, 1)),
		"a ring of two Levels":                 webOf(12, first, inForest(0, 2, 1), inForest(1, 2, 1)),
		"a ring of three Levels":               webOf(12, first, inForest(0, 2, 1), inForest(1, 2, 2)),
		"a long ring":                          webOf(12, first, inForest(0, 3, 0), inForest(1, 2, 1), inForest(2, 3, 0)),
		"a ring apart":                         webOf(12, first, inForest(3, 4, 0), inForest(3, 5, 0), inForest(4, 5, 0)),
		"beside it, no tree at all":            webOf(12, beside(0, 1, 0)),
		"beside it, in two trees":              webOf(12, first, beside(1, 2, 0), inForest(2, 3, 0)),
		"beside it, alone by others beside":    webOf(12, beside(0, 1, 0), beside(0, 2, 0), beside(1, 2, 0)),
		"beside it, not in one tree of F(1)":   webOf(12, first, inForest(0, 2, 1), beside(1, 2, 1)),
		"beside it, nothing in F(1)":           webOf(12, first, inForest(0, 2, 0), beside(1, 2, 1)),
		"beside it, not in one tree of F(2)":   webOf(12, inForest(0, 1, 1), inForest(0, 2, 2), beside(1, 2, 2)),
		"beside it, not in one tree of F(3)":   webOf(12, inForest(0, 1, 2), inForest(0, 2, 2), beside(1, 2, 3)),
		"a tree of F(1) with 7 of 12":          sortedWeb(12, chainOf(1, 0, 1, 2, 3, 4, 5, 6)),
		"a tree of F(2) with 4 of 12":          sortedWeb(12, chainOf(2, 0, 1, 2, 3)),
		"a tree of F(1) with 2 of 3":           webOf(3, inForest(0, 1, 1)),
		"one of F(1) with 7, of higher ones":   sortedWeb(12, chainOf(2, 0, 1, 2), chainOf(1, 2, 3), chainOf(2, 3, 4, 5), chainOf(1, 5, 6)),
		"the second tree of F(1) too great":    sortedWeb(9, chainOf(1, 0, 1, 2), chainOf(1, 3, 4, 5, 6, 7)),
		"the tree of the last one too great":   sortedWeb(9, chainOf(1, 4, 5, 6, 7, 8)),
		"a great tree of F(1), joined in F(0)": sortedWeb(6, chainOf(1, 0, 1, 2, 3), chainOf(0, 3, 4, 5)),
	}
	for what, g := range wrongGraphs() {
		webs["a graph with "+what] = wovenByWords(g)
	}
	return webs
}

func TestLimitOfLevels(t *testing.T) {
	if impl.MaxLevel != 4 {
		t.Errorf("MaxLevel is %d", impl.MaxLevel)
	}
}

func TestWebNew(t *testing.T) {
	for n := 1; n <= impl.MaxVerts; n++ {
		got, ok := impl.WebNew(n)
		if !ok || got.N != n || len(got.Edges) != 0 || !impl.WebOk(got) {
			t.Errorf("WebNew(%d) = %v, %v; want no edges, true", n, got, ok)
		}
	}
	for _, n := range []int{math.MinInt, -impl.MaxVerts, -2, -1, 0, impl.MaxVerts + 1, impl.MaxVerts + 2, 100, math.MaxInt} {
		if got, ok := impl.WebNew(n); ok || !isNoWeb(got) {
			t.Errorf("WebNew(%d) = %v, %v; want nothing, false", n, got, ok)
		}
	}
}

func TestGraphOf(t *testing.T) {
	for _, c := range []struct {
		what string
		w    impl.Web
		want impl.Graph
	}{
		{"no edges", webOf(5), graphOf(5)},
		{"an edge of the forest", webOf(5, inForest(1, 3, 0)), graphOf(5, edge(1, 3))},
		{"also beside it", webOf(5, inForest(0, 1, 0), inForest(0, 2, 0), beside(1, 2, 0)), graphOf(5, edge(0, 1), edge(0, 2), edge(1, 2))},
		{"several Levels", webOf(12, inForest(0, 1, 2), inForest(0, 2, 1), beside(1, 2, 1), inForest(2, 3, 0)), graphOf(12, edge(0, 1), edge(0, 2), edge(1, 2), edge(2, 3))},
		{"all zero", impl.Web{}, impl.Graph{}},
		{"N alone is wrong", webOf(-3, inForest(0, 1, 0)), graphOf(-3, edge(0, 1))},
		{"out of order, and twice", webOf(4, inForest(2, 3, 0), beside(0, 1, 0), beside(2, 3, 1)), graphOf(4, edge(2, 3), edge(0, 1), edge(2, 3))},
		{"the other way round", webOf(4, inForest(3, 2, 0), beside(-1, 99, -7)), graphOf(4, edge(3, 2), edge(-1, 99))},
	} {
		if got := impl.GraphOf(c.w); !sameGraph(got, c.want) {
			t.Errorf("%s: GraphOf(%v) = %v; want %v", c.what, c.w, got, c.want)
		}
	}
	for what, w := range wrongWebs() {
		if got := impl.GraphOf(w); !sameGraph(got, graphByWords(w)) {
			t.Errorf("%s: GraphOf(%v) = %v", what, w, got)
		}
	}
	for _, w := range rightWebs() {
		if got := impl.GraphOf(w); !sameGraph(got, graphByWords(w)) || !impl.GraphOk(got) {
			t.Fatalf("GraphOf(%v) = %v", w, got)
		}
	}
}

func wantForestAt(t *testing.T, w impl.Web, level int, want impl.Forest) {
	t.Helper()
	if got, ok := impl.ForestAt(w, level); !ok || !sameForest(got, want) || !impl.ForestOk(got) {
		t.Fatalf("ForestAt(%v, %d) = %v, %v; want %v, true", w, level, got, ok, want)
	}
}

func wantNoForestAt(t *testing.T, w impl.Web, level int, why string) {
	t.Helper()
	if got, ok := impl.ForestAt(w, level); ok || got.N != 0 || len(got.Tours) != 0 {
		t.Fatalf("ForestAt(%v, %d) (%s) = %v, %v; want nothing, false", w, level, why, got, ok)
	}
}

func levelsOfNote() []int {
	return []int{math.MinInt, -2, -1, 0, 1, 2, 3, impl.MaxLevel, impl.MaxLevel + 1, 100, math.MaxInt}
}

func TestForestAtByHand(t *testing.T) {
	w := webOf(12, inForest(0, 3, 0), inForest(1, 2, 2), inForest(1, 5, 1), beside(2, 5, 1), inForest(2, 6, 1), inForest(3, 4, 1), inForest(3, 5, 0), beside(4, 6, 0))
	rest := [][]int{{7}, {8}, {9}, {10}, {11}}
	whole := forestOf(12, append([][]int{{0, 3, 4, 3, 5, 1, 2, 6, 2, 1, 5, 3, 0}}, rest...)...)
	first := forestOf(12, append([][]int{{0}, {1, 2, 6, 2, 1, 5, 1}, {3, 4, 3}}, rest...)...)
	second := forestOf(12, append([][]int{{0}, {1, 2, 1}, {3}, {4}, {5}, {6}}, rest...)...)
	none, _ := impl.ForestNew(12)
	for _, level := range levelsOfNote() {
		want := none
		switch {
		case level <= 0:
			want = whole
		case level == 1:
			want = first
		case level == 2:
			want = second
		}
		wantForestAt(t, w, level, want)
		wantForestAt(t, webOf(12), level, none)
		wantForestAt(t, webOf(1), level, forestOf(1, []int{0}))
		wantForestAt(t, webOf(3, beside(0, 1, 0), beside(1, 2, 4)), level, forestOf(3, []int{0}, []int{1}, []int{2}))
	}
}

// A web need not be right in other ways: Levels may be any, trees too great, edges out of order, or one beside the forest twice.
func TestForestAtOfWebsThatAreNotRight(t *testing.T) {
	high := webOf(3, inForest(0, 1, impl.MaxLevel), inForest(1, 2, impl.MaxLevel+1))
	wantForestAt(t, high, 3, forestOf(3, []int{0, 1, 2, 1, 0}))
	wantForestAt(t, high, impl.MaxLevel, forestOf(3, []int{0, 1, 2, 1, 0}))
	wantForestAt(t, high, impl.MaxLevel+1, forestOf(3, []int{0}, []int{1, 2, 1}))
	wantForestAt(t, high, impl.MaxLevel+2, forestOf(3, []int{0}, []int{1}, []int{2}))
	low := webOf(3, inForest(0, 1, -1), inForest(1, 2, 0))
	wantForestAt(t, low, -1, forestOf(3, []int{0, 1, 2, 1, 0}))
	wantForestAt(t, low, 0, forestOf(3, []int{0}, []int{1, 2, 1}))
	wantForestAt(t, webOf(4, inForest(2, 3, 0), inForest(0, 2, 0), inForest(0, 1, 0)), 0, forestOf(4, []int{0, 1, 0, 2, 3, 2, 0}))
	wantForestAt(t, webOf(3, inForest(0, 2, 0), beside(0, 2, 0), beside(0, 2, 0)), 0, forestOf(3, []int{0, 2, 0}, []int{1}))
	wantForestAt(t, webOf(3, beside(0, 1, 0), beside(0, 2, 0), beside(1, 2, 0)), 0, forestOf(3, []int{0}, []int{1}, []int{2}))
}

func TestForestAtRefuses(t *testing.T) {
	for _, level := range levelsOfNote() {
		for _, n := range []int{math.MinInt, -1, 0, impl.MaxVerts + 1, math.MaxInt} {
			wantNoForestAt(t, webOf(n), level, "N is not right")
			wantNoForestAt(t, webOf(n, inForest(0, 1, 0)), level, "N is not right")
		}
		for _, e := range wrongEdges(4) {
			for _, own := range []int{-1, 0, 2, impl.MaxLevel} {
				wantNoForestAt(t, webOf(4, inForest(e.A, e.B, own)), level, "an edge of the forest is not right")
				wantNoForestAt(t, webOf(4, beside(e.A, e.B, own)), level, "an edge beside it is not right")
				wantNoForestAt(t, webOf(4, inForest(0, 1, 1), beside(e.A, e.B, own), inForest(2, 3, 0)), level, "one between is not right")
			}
		}
		for _, own := range [][]int{{0, 0, 0}, {1, 1, 1}, {4, 4, 4}, {0, 1, 1}, {1, 0, 1}, {1, 1, 0}, {0, 1, 2}, {-1, 4, 9}} {
			wantNoForestAt(t, webOf(12, inForest(0, 1, own[0]), inForest(0, 2, own[1]), inForest(1, 2, own[2])), level, "a ring")
			wantNoForestAt(t, webOf(12, inForest(7, 8, own[0]), inForest(0, 1, 2), inForest(7, 9, own[1]), inForest(8, 9, own[2])), level, "a ring apart")
			wantNoForestAt(t, webOf(12, inForest(3, 8, own[0]), inForest(3, 8, own[1])), level, "an edge of the forest twice")
		}
	}
	wantForestAt(t, webOf(impl.MaxVerts), 0, mustForest(impl.MaxVerts))
}

func mustForest(n int) impl.Forest {
	f, _ := impl.ForestNew(n)
	return f
}

func TestForestAtOfWebs(t *testing.T) {
	webs := append(everySmallWeb(), drawnWebs()...)
	for _, w := range wrongWebs() {
		webs = append(webs, w)
	}
	planted := 0
	for _, w := range webs {
		for level := -1; level <= 5; level++ {
			want, ok := plantedByWords(w, level)
			if !ok {
				wantNoForestAt(t, w, level, "by the document's words")
				continue
			}
			planted++
			wantForestAt(t, w, level, want)
		}
	}
	if planted < 5000 {
		t.Errorf("only %d forests were told", planted)
	}
}

func TestWebOkByHand(t *testing.T) {
	all := allEdges(impl.MaxVerts)
	full := impl.Web{N: impl.MaxVerts}
	for _, e := range all {
		full.Edges = append(full.Edges, impl.Ledge{A: e.A, B: e.B, Tree: e.A == 0})
	}
	for what, w := range map[string]impl.Web{
		"N of 1":                         webOf(1),
		"N of MaxVerts":                  webOf(impl.MaxVerts),
		"one edge":                       webOf(2, inForest(0, 1, 0)),
		"beside it, in one tree":         webOf(3, inForest(0, 1, 0), inForest(0, 2, 0), beside(1, 2, 0)),
		"all edges":                      full,
		"a Level of 1":                   webOf(4, inForest(0, 1, 1)),
		"a Level of 2":                   webOf(8, inForest(6, 7, 2)),
		"beside it in F(1)":              webOf(6, inForest(0, 1, 1), inForest(0, 2, 1), beside(1, 2, 1)),
		"beside it, lower than its tree": webOf(6, inForest(0, 1, 1), inForest(0, 2, 1), beside(1, 2, 0)),
		"beside it in F(1), of Level 2":  webOf(12, inForest(0, 1, 2), inForest(0, 2, 2), beside(1, 2, 1)),
		"beside it in F(2)":              webOf(12, inForest(0, 1, 2), inForest(0, 2, 2), beside(1, 2, 2)),
		"trees as great as may be":       sortedWeb(12, chainOf(2, 0, 1, 2), chainOf(1, 2, 3), chainOf(2, 3, 4, 5), chainOf(0, 5, 6), chainOf(1, 6, 7, 8, 9, 10, 11)),
		"a great tree of F(0)":           sortedWeb(12, chainOf(0, 0, 1, 2, 3, 4, 5, 6, 7, 8, 9, 10, 11)),
	} {
		if !impl.WebOk(w) || !webOkByWords(w) {
			t.Errorf("%s: WebOk(%v) is false", what, w)
		}
	}
	for what, w := range wrongWebs() {
		if impl.WebOk(w) || webOkByWords(w) {
			t.Errorf("%s: WebOk(%v) is true", what, w)
		}
	}
}

// Of each Level and each N the greatest tree that may be is right, and one with one more is not;
// chains and stars, of all vertices that come first, and of all that come last.
func TestWebOkOfGreatTrees(t *testing.T) {
	right := 0
	for n := 1; n <= impl.MaxVerts; n++ {
		for level := 0; level <= impl.MaxLevel; level++ {
			most := n
			for range level {
				most /= 2
			}
			for size := 2; size <= n; size++ {
				chain, star, last := []impl.Ledge{}, []impl.Ledge{}, []impl.Ledge{}
				for v := 1; v < size; v++ {
					chain = append(chain, inForest(v-1, v, level))
					star = append(star, inForest(0, v, level))
					last = append(last, inForest(n-size+v-1, n-size+v, level))
				}
				for _, edges := range [][]impl.Ledge{chain, star, last} {
					w := webOf(n, edges...)
					if impl.WebOk(w) != (size <= most) {
						t.Errorf("WebOk(%v) is %v", w, size > most)
					}
					if size <= most {
						right++
					}
				}
			}
		}
	}
	if right < 100 {
		t.Errorf("only %d webs were right", right)
	}
}

func TestWebOkOfEverySmallWeb(t *testing.T) {
	right := 0
	for _, w := range everySmallWeb() {
		want := webOkByWords(w)
		if impl.WebOk(w) != want {
			t.Fatalf("WebOk(%v) is %v", w, !want)
		}
		if want {
			right++
		}
	}
	if right < 300 {
		t.Errorf("only %d small webs were right", right)
	}
}

// nearWebs are but a little other than w: some of them are right, many are not.
func nearWebs(drawn *drawnNumber, w impl.Web) []impl.Web {
	near := []impl.Web{webOf(w.N-1, w.Edges...), webOf(w.N+1, w.Edges...), webOf(w.N, append(slices.Clone(w.Edges), inForest(0, 1, 0))...)}
	for range min(len(w.Edges), 8) {
		at, with := drawn.below(len(w.Edges)), drawn.below(len(w.Edges))
		higher, lower, other, ends, less, swapped := slices.Clone(w.Edges), slices.Clone(w.Edges), slices.Clone(w.Edges), slices.Clone(w.Edges), slices.Clone(w.Edges), slices.Clone(w.Edges)
		higher[at].Level++
		lower[at].Level--
		other[at].Tree = !other[at].Tree
		ends[at].B = drawn.below(impl.MaxVerts + 1)
		less = slices.Delete(less, at, at+1)
		swapped[at], swapped[with] = swapped[with], swapped[at]
		for _, edges := range [][]impl.Ledge{higher, lower, other, ends, less, swapped} {
			near = append(near, webOf(w.N, edges...))
		}
	}
	return near
}

func TestWebOkOfDrawnWebs(t *testing.T) {
	drawn, right, wrong, levels := drawnNumber(18), 0, 0, [5]int{}
	for _, w := range drawnWebs() {
		if !impl.WebOk(w) || !webOkByWords(w) {
			t.Fatalf("WebOk(%v) is false", w)
		}
		for _, l := range w.Edges {
			levels[l.Level]++
		}
		for _, near := range nearWebs(&drawn, w) {
			want := webOkByWords(near)
			if impl.WebOk(near) != want {
				t.Fatalf("WebOk(%v) is %v", near, !want)
			}
			if want {
				right++
			} else {
				wrong++
			}
		}
	}
	if right < 1000 || wrong < 1000 || min(levels[0], levels[1], levels[2]) < 200 {
		t.Errorf("only %d near webs were right, %d wrong; of the Levels there were %v", right, wrong, levels)
	}
}

func wantWebAdded(t *testing.T, w impl.Web, e impl.Edge, want impl.Web) {
	t.Helper()
	if got, ok := impl.WebAdd(w, e); !ok || !sameWeb(got, want) || !impl.WebOk(got) {
		t.Fatalf("WebAdd(%v, %v) = %v, %v; want %v, true", w, e, got, ok, want)
	}
}

func wantWebNotAdded(t *testing.T, w impl.Web, e impl.Edge, why string) {
	t.Helper()
	if got, ok := impl.WebAdd(w, e); ok || !isNoWeb(got) {
		t.Fatalf("WebAdd(%v, %v) (%s) = %v, %v; want nothing, false", w, e, why, got, ok)
	}
}

func TestWebAddByHand(t *testing.T) {
	w := webOf(12, inForest(0, 1, 2), inForest(0, 2, 1), beside(1, 2, 1), inForest(4, 5, 1))
	for _, c := range []struct {
		what string
		w    impl.Web
		e    impl.Edge
		want impl.Web
	}{
		{"the first one", webOf(2), edge(0, 1), webOf(2, inForest(0, 1, 0))},
		{"both alone, ahead of others", webOf(4, inForest(2, 3, 0)), edge(0, 1), webOf(4, inForest(0, 1, 0), inForest(2, 3, 0))},
		{"both alone, behind others", webOf(4, inForest(0, 1, 0)), edge(2, 3), webOf(4, inForest(0, 1, 0), inForest(2, 3, 0))},
		{"two trees, between others", w, edge(2, 4), webOf(12, w.Edges[0], w.Edges[1], w.Edges[2], inForest(2, 4, 0), w.Edges[3])},
		{"a tree and one alone", w, edge(0, 11), webOf(12, w.Edges[0], w.Edges[1], inForest(0, 11, 0), w.Edges[2], w.Edges[3])},
		{"one tree", webOf(4, inForest(0, 1, 0), inForest(1, 2, 0)), edge(0, 2), webOf(4, inForest(0, 1, 0), beside(0, 2, 0), inForest(1, 2, 0))},
		{"one tree of a high Level", webOf(12, inForest(0, 1, 2), inForest(0, 2, 2)), edge(1, 2), webOf(12, inForest(0, 1, 2), inForest(0, 2, 2), beside(1, 2, 0))},
		{"one tree of different Levels", webOf(12, inForest(0, 1, 2), inForest(1, 3, 0)), edge(0, 3), webOf(12, inForest(0, 1, 2), beside(0, 3, 0), inForest(1, 3, 0))},
		{"far ends of one tree", sortedWeb(12, chainOf(0, 0, 2, 4, 6, 1)), edge(0, 1), sortedWeb(12, chainOf(0, 0, 2, 4, 6, 1), []impl.Ledge{beside(0, 1, 0)})},
	} {
		t.Run(c.what, func(t *testing.T) { wantWebAdded(t, c.w, c.e, c.want) })
	}
	for _, l := range w.Edges {
		wantWebNotAdded(t, w, edgeOfLedge(l), "it is there")
	}
	for _, e := range wrongEdges(12) {
		wantWebNotAdded(t, w, e, "no right edge")
	}
	wantWebNotAdded(t, webOf(1), edge(0, 1), "of one vertex alone")
	wantWebNotAdded(t, webOf(1), edge(0, 0), "of a vertex with itself")
}

type takenCase struct {
	what  string
	w     impl.Web
	e     impl.Edge
	want  impl.Web
	place impl.Edge
	found bool
}

func wantWebTaken(t *testing.T, c takenCase) {
	t.Helper()
	got, place, found, ok := impl.WebTake(c.w, c.e)
	if !ok || !sameWeb(got, c.want) || place != c.place || found != c.found || !impl.WebOk(got) {
		t.Fatalf("%s: WebTake(%v, %v) = %v, %v, %v, %v; want %v, %v, %v, true", c.what, c.w, c.e, got, place, found, ok, c.want, c.place, c.found)
	}
}

func wantWebNotTaken(t *testing.T, w impl.Web, e impl.Edge, why string) {
	t.Helper()
	if got, place, found, ok := impl.WebTake(w, e); ok || found || place != edge(0, 0) || !isNoWeb(got) {
		t.Fatalf("WebTake(%v, %v) (%s) = %v, %v, %v, %v; want nothing, false", w, e, why, got, place, found, ok)
	}
}

func TestWebTakeWithoutAPlace(t *testing.T) {
	ring := webOf(12, inForest(0, 1, 1), inForest(0, 2, 1), beside(1, 2, 1), inForest(2, 3, 0))
	for _, c := range []takenCase{
		{what: "one beside the forest", w: ring, e: edge(1, 2), want: webOf(12, ring.Edges[0], ring.Edges[1], ring.Edges[3])},
		{what: "the last one", w: webOf(2, inForest(0, 1, 0)), e: edge(0, 1), want: webOf(2)},
		{what: "A's tree is one vertex", w: sortedWeb(5, chainOf(0, 0, 1, 2, 3)), e: edge(0, 1), want: sortedWeb(5, chainOf(0, 1, 2, 3))},
		{what: "B's tree is one vertex", w: sortedWeb(5, chainOf(0, 0, 1, 2, 3)), e: edge(2, 3), want: sortedWeb(5, chainOf(0, 0, 1, 2))},
		{what: "A's tree is smaller", w: sortedWeb(5, chainOf(0, 0, 1, 2, 3, 4)), e: edge(1, 2), want: sortedWeb(5, chainOf(1, 0, 1), chainOf(0, 2, 3, 4))},
		{what: "B's tree is smaller", w: sortedWeb(5, chainOf(0, 0, 1, 2, 3, 4)), e: edge(2, 3), want: sortedWeb(5, chainOf(0, 0, 1, 2), chainOf(1, 3, 4))},
		{what: "both of as many", w: sortedWeb(4, chainOf(0, 0, 1, 2, 3)), e: edge(1, 2), want: sortedWeb(4, chainOf(1, 0, 1), chainOf(0, 2, 3))},
		{what: "as many, A's has the greater ones", w: sortedWeb(4, chainOf(0, 3, 1, 2, 0)), e: edge(1, 2), want: sortedWeb(4, chainOf(1, 1, 3), chainOf(0, 0, 2))},
		{what: "higher ones stay", w: sortedWeb(12, chainOf(1, 0, 1), chainOf(0, 1, 2, 3, 4, 5, 6)), e: edge(2, 3), want: sortedWeb(12, chainOf(1, 0, 1, 2), chainOf(0, 3, 4, 5, 6))},
		{what: "down from Level 1", w: sortedWeb(12, chainOf(1, 0, 1, 2, 3), chainOf(0, 3, 4, 5), chainOf(0, 1, 6)), e: edge(1, 2),
			want: sortedWeb(12, chainOf(2, 0, 1), chainOf(1, 1, 6), chainOf(1, 2, 3), chainOf(0, 3, 4, 5))},
		{what: "down from Level 1, another side", w: sortedWeb(12, chainOf(1, 0, 1, 2, 3, 4), chainOf(0, 4, 5), chainOf(0, 1, 6, 7, 8)), e: edge(1, 2),
			want: sortedWeb(12, chainOf(2, 0, 1), chainOf(0, 1, 6, 7, 8), chainOf(1, 2, 3, 4, 5))},
		{what: "trees elsewhere stay", w: sortedWeb(12, chainOf(0, 0, 1, 2, 3), chainOf(0, 4, 5, 6), chainOf(1, 7, 8)), e: edge(1, 2),
			want: sortedWeb(12, chainOf(1, 0, 1), chainOf(0, 2, 3), chainOf(0, 4, 5, 6), chainOf(1, 7, 8))},
		{what: "higher ones beside it stay", w: sortedWeb(12, chainOf(2, 0, 1, 2), chainOf(0, 2, 3, 4, 5), []impl.Ledge{beside(0, 2, 2)}), e: edge(2, 3),
			want: sortedWeb(12, chainOf(2, 0, 1, 2), chainOf(0, 3, 4, 5), []impl.Ledge{beside(0, 2, 2)})},
		{what: "those of each Level", w: sortedWeb(12, chainOf(2, 0, 1, 2), chainOf(1, 2, 3), chainOf(0, 3, 4, 5, 6, 7, 8, 9, 10), []impl.Ledge{beside(0, 2, 2), beside(0, 3, 1), beside(1, 3, 0), beside(1, 4, 0)}), e: edge(4, 5),
			want: sortedWeb(12, chainOf(2, 0, 1, 2), chainOf(1, 2, 3, 4), chainOf(0, 5, 6, 7, 8, 9, 10), []impl.Ledge{beside(0, 2, 2), beside(0, 3, 1), beside(1, 3, 1), beside(1, 4, 1)})},
		{what: "edges beside it, in the smaller tree", w: sortedWeb(8, chainOf(0, 0, 1, 2, 3, 4, 5, 6), []impl.Ledge{beside(0, 2, 0), beside(3, 5, 0)}), e: edge(2, 3),
			want: sortedWeb(8, chainOf(1, 0, 1, 2), chainOf(0, 3, 4, 5, 6), []impl.Ledge{beside(0, 2, 1), beside(3, 5, 0)})},
	} {
		t.Run(c.what, func(t *testing.T) { wantWebTaken(t, c) })
	}
}

func TestWebTakeWithAPlace(t *testing.T) {
	ring := webOf(3, inForest(0, 1, 0), inForest(0, 2, 0), beside(1, 2, 0))
	small, great := chainOf(0, 0, 1, 2, 7), chainOf(0, 3, 4, 5, 6, 8)
	several := []impl.Ledge{inForest(2, 3, 0), beside(0, 2, 0), beside(0, 5, 0), beside(1, 4, 0), beside(1, 7, 0), beside(3, 5, 0)}
	high := []impl.Ledge{beside(0, 2, 1), beside(1, 4, 1), beside(2, 5, 1), beside(0, 4, 0), beside(3, 5, 1)}
	for _, c := range []takenCase{
		{"one that could", ring, edge(0, 1), webOf(3, inForest(0, 2, 0), inForest(1, 2, 0)), edge(1, 2), true},
		{"the same, B's tree", ring, edge(0, 2), webOf(3, inForest(0, 1, 0), inForest(1, 2, 0)), edge(1, 2), true},
		{"several, some ahead and some behind", sortedWeb(12, small, great, several), edge(2, 3),
			sortedWeb(12, chainOf(1, 0, 1, 2, 7), great, []impl.Ledge{beside(0, 2, 1), inForest(0, 5, 0), beside(1, 4, 0), beside(1, 7, 0), beside(3, 5, 0)}), edge(0, 5), true},
		{"at Level 1, with others of Level 0", sortedWeb(12, chainOf(1, 0, 1, 2, 3, 4, 5), high), edge(2, 3),
			sortedWeb(12, chainOf(2, 0, 1, 2), chainOf(1, 3, 4, 5), []impl.Ledge{beside(0, 2, 2), inForest(1, 4, 1), beside(2, 5, 1), beside(0, 4, 0), beside(3, 5, 1)}), edge(1, 4), true},
		{"at Level 1, trees joined below stay", sortedWeb(12, chainOf(1, 0, 1, 2), chainOf(0, 2, 3, 4), chainOf(0, 0, 5), []impl.Ledge{beside(0, 2, 1), beside(0, 3, 0)}), edge(0, 1),
			sortedWeb(12, chainOf(1, 1, 2, 0), chainOf(0, 2, 3, 4), chainOf(0, 0, 5), []impl.Ledge{beside(0, 3, 0)}), edge(0, 2), true},
		{"of Level 1, at Level 0", sortedWeb(8, chainOf(1, 0, 1, 2), chainOf(0, 2, 3, 4), chainOf(0, 0, 5, 6), []impl.Ledge{beside(0, 6, 0), beside(4, 6, 0)}), edge(0, 1),
			sortedWeb(8, chainOf(1, 1, 2), chainOf(0, 2, 3, 4), chainOf(1, 0, 5, 6), []impl.Ledge{beside(0, 6, 1), inForest(4, 6, 0)}), edge(4, 6), true},
		{"of Level 2, at Level 0", sortedWeb(12, chainOf(2, 0, 1, 2), chainOf(1, 2, 3, 4), chainOf(1, 0, 5), chainOf(0, 5, 6), chainOf(0, 4, 7), []impl.Ledge{beside(2, 4, 1), beside(6, 7, 0)}), edge(0, 1),
			sortedWeb(12, chainOf(2, 1, 2), chainOf(1, 2, 3, 4), chainOf(2, 0, 5), chainOf(1, 5, 6), chainOf(0, 4, 7), []impl.Ledge{beside(2, 4, 1), inForest(6, 7, 0)}), edge(6, 7), true},
		{"of Level 2, at Level 1", sortedWeb(12, chainOf(2, 0, 1, 2), chainOf(1, 2, 3, 4), chainOf(1, 0, 5), []impl.Ledge{beside(0, 2, 0), beside(4, 5, 1)}), edge(0, 1),
			sortedWeb(12, chainOf(2, 1, 2), chainOf(1, 2, 3, 4), chainOf(2, 0, 5), []impl.Ledge{beside(0, 2, 0), inForest(4, 5, 1)}), edge(4, 5), true},
		{"of Level 2, at Level 2", sortedWeb(12, chainOf(2, 0, 1, 2), chainOf(0, 2, 3), []impl.Ledge{beside(0, 2, 2), beside(0, 3, 0)}), edge(1, 2),
			sortedWeb(12, chainOf(2, 1, 0, 2), chainOf(0, 2, 3), []impl.Ledge{beside(0, 3, 0)}), edge(0, 2), true},
		{"the first of as many", sortedWeb(4, chainOf(0, 0, 1, 2, 3), []impl.Ledge{beside(0, 2, 0), beside(0, 3, 0), beside(1, 3, 0)}), edge(1, 2),
			sortedWeb(4, chainOf(1, 0, 1), chainOf(0, 2, 3), []impl.Ledge{inForest(0, 2, 0), beside(0, 3, 0), beside(1, 3, 0)}), edge(0, 2), true},
	} {
		t.Run(c.what, func(t *testing.T) { wantWebTaken(t, c) })
	}
}

func TestWebTakeRefuses(t *testing.T) {
	w := webOf(12, inForest(0, 1, 2), inForest(0, 2, 1), beside(1, 2, 1), inForest(4, 5, 1))
	for _, e := range allEdges(12) {
		wantWebNotTaken(t, webOf(12), e, "there is none")
		if !slices.Contains(graphByWords(w).Edges, e) {
			wantWebNotTaken(t, w, e, "it is not there")
		}
	}
	for _, e := range wrongEdges(12) {
		wantWebNotTaken(t, w, e, "no right edge")
	}
	wantWebNotTaken(t, webOf(1), edge(0, 0), "of a vertex with itself")
}

// With at most MaxVerts vertices no right web has a Level of 3 or more: what would get such a one is never there.
func TestWebTakeOfHighLevels(t *testing.T) {
	for n := 1; n <= impl.MaxVerts; n++ {
		for level := 3; level <= impl.MaxLevel; level++ {
			for _, w := range []impl.Web{webOf(n, inForest(0, 1, level)), webOf(n, inForest(0, 1, 0), inForest(0, 2, 0), beside(1, 2, level)),
				webOf(n, inForest(0, 1, level), inForest(0, 2, level), beside(1, 2, level))} {
				for _, l := range w.Edges {
					wantWebNotTaken(t, w, edgeOfLedge(l), "of too high a Level")
				}
			}
		}
	}
	w := sortedWeb(12, chainOf(2, 0, 1, 2), []impl.Ledge{beside(0, 2, 2)})
	wantWebTaken(t, takenCase{"the highest Level of all", w, edge(0, 1), sortedWeb(12, chainOf(2, 0, 2, 1)), edge(0, 2), true})
}

func TestWebsThatAreNotRight(t *testing.T) {
	for what, w := range wrongWebs() {
		for _, e := range slices.Concat(allEdges(impl.MaxVerts), graphByWords(w).Edges, wrongEdges(4)) {
			wantWebNotAdded(t, w, e, what)
			wantWebNotTaken(t, w, e, what)
		}
		for a := -2; a <= impl.MaxVerts+1; a++ {
			for b := -2; b <= impl.MaxVerts+1; b++ {
				if impl.WebTogether(w, a, b) {
					t.Errorf("%s: WebTogether(%v, %d, %d) is true", what, w, a, b)
				}
			}
		}
		if labels, height := impl.WebLabels(w), impl.HeightOf(w); len(labels) != 0 || height != -1 {
			t.Errorf("%s: WebLabels(%v) = %v, HeightOf %d; want nothing, -1", what, w, labels, height)
		}
	}
}

func TestWebTogetherAndLabelsByHand(t *testing.T) {
	for _, c := range []struct {
		what string
		w    impl.Web
		want []int
	}{
		{"one vertex", webOf(1), []int{0}},
		{"no edges", webOf(4), []int{0, 1, 2, 3}},
		{"several trees", webOf(6, inForest(0, 4, 0), inForest(1, 5, 0), inForest(2, 5, 0)), []int{0, 1, 1, 3, 0, 1}},
		{"several Levels", webOf(12, inForest(1, 3, 2), inForest(2, 3, 0), inForest(3, 8, 1), inForest(7, 9, 1)), []int{0, 1, 1, 1, 4, 5, 6, 7, 1, 7, 10, 11}},
		{"one tree, and edges beside it", webOf(4, inForest(0, 3, 0), inForest(1, 2, 0), beside(1, 3, 0), inForest(2, 3, 0)), []int{0, 0, 0, 0}},
		{"one tree of all", sortedWeb(12, chainOf(0, 11, 10, 9, 8, 7, 6, 5, 4, 3, 2, 1, 0)), make([]int, 12)},
	} {
		if got := impl.WebLabels(c.w); !slices.Equal(got, c.want) {
			t.Errorf("%s: WebLabels(%v) = %v; want %v", c.what, c.w, got, c.want)
		}
		outside := []int{math.MinInt, -1, c.w.N, c.w.N + 1, math.MaxInt}
		for a, one := range c.want {
			for b, other := range c.want {
				if impl.WebTogether(c.w, a, b) != (one == other) {
					t.Errorf("%s: WebTogether(%v, %d, %d) is %v", c.what, c.w, a, b, one != other)
				}
			}
			for _, none := range outside {
				if impl.WebTogether(c.w, a, none) || impl.WebTogether(c.w, none, a) || impl.WebTogether(c.w, none, none) {
					t.Errorf("%s: WebTogether(%v) of %d is true", c.what, c.w, none)
				}
			}
		}
	}
}

func TestHeightOf(t *testing.T) {
	for _, c := range []struct {
		what string
		w    impl.Web
		want int
	}{
		{"one vertex", webOf(1), -1},
		{"no edges", webOf(12), -1},
		{"Level 0 alone", webOf(12, inForest(0, 1, 0)), 0},
		{"Level 0, also beside", webOf(12, inForest(0, 1, 0), inForest(0, 2, 0), beside(1, 2, 0)), 0},
		{"Level 1", webOf(12, inForest(0, 1, 1)), 1},
		{"the greatest first", webOf(12, inForest(0, 1, 2), inForest(0, 2, 1), inForest(2, 3, 0)), 2},
		{"the greatest in the middle", webOf(12, inForest(0, 1, 0), inForest(1, 2, 2), inForest(2, 3, 1)), 2},
		{"the greatest last", webOf(12, inForest(0, 1, 0), inForest(1, 2, 1), inForest(2, 3, 2)), 2},
		{"beside it, as great", webOf(12, inForest(0, 1, 1), inForest(0, 2, 1), beside(1, 2, 1)), 1},
		{"beside it, less", webOf(12, inForest(0, 1, 2), inForest(0, 2, 2), beside(1, 2, 0)), 2},
		{"not right", webOf(12, inForest(0, 1, 3)), -1},
		{"not right by its order", webOf(12, inForest(1, 2, 1), inForest(0, 1, 1)), -1},
		{"all zero", impl.Web{}, -1},
	} {
		if got := impl.HeightOf(c.w); got != c.want {
			t.Errorf("%s: HeightOf(%v) = %d; want %d", c.what, c.w, got, c.want)
		}
	}
}

// wantTellsItsGraph holds a right web to what the graph of its edges tells.
func wantTellsItsGraph(t *testing.T, w impl.Web, g impl.Graph) {
	t.Helper()
	if !impl.WebOk(w) || !webOkByWords(w) || !sameGraph(impl.GraphOf(w), g) {
		t.Fatalf("the web %v is not right, or has not the edges of %v", w, g)
	}
	labels, height := impl.Labels(g), -1
	if got := impl.WebLabels(w); !slices.Equal(got, labels) || !slices.Equal(got, labelsByWords(g)) {
		t.Fatalf("WebLabels(%v) = %v; want %v", w, got, labels)
	}
	for _, l := range w.Edges {
		height = max(height, l.Level)
	}
	if got := impl.HeightOf(w); got != height {
		t.Fatalf("HeightOf(%v) = %d; want %d", w, got, height)
	}
}

func wantTogetherAsItsGraph(t *testing.T, w impl.Web, g impl.Graph) {
	t.Helper()
	for a := -1; a <= g.N; a++ {
		for b := -1; b <= g.N; b++ {
			if want := impl.Together(g, a, b); impl.WebTogether(w, a, b) != want {
				t.Fatalf("WebTogether(%v, %d, %d) is %v", w, a, b, !want)
			}
		}
	}
}

// Each edge that there may be comes, or goes, as the document's words have it.
func TestWebAddAndTakeOfWebs(t *testing.T) {
	adds, takes, places, below := 0, 0, 0, 0
	for _, w := range rightWebs() {
		g := graphByWords(w)
		wantTellsItsGraph(t, w, g)
		for _, e := range allEdges(w.N) {
			if !slices.Contains(g.Edges, e) {
				adds++
				wantWebNotTaken(t, w, e, "it is not there")
				wantWebAdded(t, w, e, addedByWords(w, e))
				continue
			}
			takes++
			wantWebNotAdded(t, w, e, "it is there")
			want, place, found := takenByWords(w, e)
			wantWebTaken(t, takenCase{"by the document's words", w, e, want, place, found})
			if found {
				places++
			}
			if found && toldByWords(want)[place].Level < toldByWords(w)[e].Level {
				below++
			}
		}
	}
	if adds < 1000 || takes < 1000 || places < 500 || below < 50 {
		t.Errorf("only %d edges came, %d went; %d places were taken, %d of them below", adds, takes, places, below)
	}
}

// A web stays right, whatever comes and goes; it tells what its graph tells.
func TestWebsForLong(t *testing.T) {
	drawn, levels, places, tries := drawnNumber(28), [5]int{}, 0, 0
	for n := 1; n <= impl.MaxVerts; n++ {
		w, _ := impl.WebNew(n)
		g := graphOf(n)
		for i := range 250 {
			e, dense := edge(drawn.below(n), drawn.below(n)), 1+i/50%4
			added, hasCome := impl.AddEdge(g, e)
			taken, hasGone := impl.TakeEdge(g, e)
			switch {
			case hasCome && drawn.below(5) <= dense:
				wantWebAdded(t, w, e, addedByWords(w, e))
				w, _ = impl.WebAdd(w, e)
				g = added
			case hasGone:
				want, place, found := takenByWords(w, e)
				wantWebTaken(t, takenCase{"in a long row", w, e, want, place, found})
				w, _, _, _ = impl.WebTake(w, e)
				g = taken
				if found {
					places++
				}
			case !hasCome:
				wantWebNotAdded(t, w, e, "AddEdge is false")
				wantWebNotTaken(t, w, e, "TakeEdge is false")
			}
			wantTellsItsGraph(t, w, g)
			if tries++; tries%10 == 0 {
				wantTogetherAsItsGraph(t, w, g)
			}
			for _, l := range w.Edges {
				levels[l.Level]++
			}
		}
	}
	if places < 100 || min(levels[0], levels[1], levels[2]) < 100 || levels[3]+levels[4] > 0 {
		t.Errorf("only %d places were taken; of the Levels there were %v", places, levels)
	}
}

// All edges come, and go again in a drawn order, till there are none.
func TestWebsThatFillAndEmpty(t *testing.T) {
	drawn := drawnNumber(38)
	for _, n := range []int{2, 5, 8, impl.MaxVerts} {
		w, _ := impl.WebNew(n)
		g := graphOf(n)
		for _, at := range drawn.order(len(allEdges(n))) {
			w, _ = impl.WebAdd(w, allEdges(n)[at])
			g, _ = impl.AddEdge(g, allEdges(n)[at])
			wantTellsItsGraph(t, w, g)
		}
		for left, at := range drawn.order(len(allEdges(n))) {
			e := allEdges(n)[at]
			want, place, found := takenByWords(w, e)
			wantWebTaken(t, takenCase{"as all go", w, e, want, place, found})
			w, _, _, _ = impl.WebTake(w, e)
			g, _ = impl.TakeEdge(g, e)
			wantTellsItsGraph(t, w, g)
			if len(w.Edges) != len(allEdges(n))-left-1 {
				t.Fatalf("the web %v has not one edge less", w)
			}
		}
	}
}

func TestWebsLeaveArgumentsAlone(t *testing.T) {
	fill, webs := impl.Ledge{A: 77, B: 78, Level: 79, Tree: true}, drawnWebs()[:60]
	for at, w := range rightWebs() {
		if w.N <= 4 && at%7 == 0 {
			webs = append(webs, w)
		}
	}
	for _, wrong := range wrongWebs() {
		webs = append(webs, wrong)
	}
	for _, was := range webs {
		w := impl.Web{N: was.N, Edges: within(was.Edges, fill)}
		ledges, edges, numbers, tours, forests := [][]impl.Ledge{w.Edges}, [][]impl.Edge{}, [][]int{}, [][]int{}, [][][]int{}
		some := slices.Concat(allEdges(min(max(was.N, 0), 5)), graphByWords(was).Edges)
		for _, e := range some[:min(len(some), 30)] {
			added, _ := impl.WebAdd(w, e)
			taken, _, _, _ := impl.WebTake(w, e)
			impl.WebTogether(w, e.A, e.B)
			ledges = append(ledges, added.Edges, taken.Edges)
		}
		for level := -1; level <= impl.MaxLevel+1; level++ {
			f, _ := impl.ForestAt(w, level)
			tours, forests = append(tours, f.Tours...), append(forests, f.Tours)
			edges, numbers = append(edges, impl.GraphOf(w).Edges), append(numbers, impl.WebLabels(w))
		}
		impl.WebOk(w)
		impl.HeightOf(w)
		wantApart(t, "the web and what WebAdd and WebTake answer", ledges...)
		wantApart(t, "what GraphOf answers", edges...)
		wantApart(t, "what WebLabels answers, and the tours of ForestAt", append(numbers, tours...)...)
		wantApart(t, "what ForestAt answers", forests...)
		if want := within(was.Edges, fill); !slices.Equal(w.Edges[:cap(w.Edges)], want[:len(was.Edges)+4]) {
			t.Fatalf("the edges, or the room behind them, are now %v", w.Edges[:cap(w.Edges)])
		}
	}
}

// What is answered is the caller's: writing into it changes no later answer.
func TestWebsAreKeptNowhere(t *testing.T) {
	was := sortedWeb(12, chainOf(1, 0, 1, 2), chainOf(0, 2, 3), []impl.Ledge{beside(0, 2, 1), beside(0, 3, 0)})
	w := webOf(12, slices.Clone(was.Edges)...)
	for range 3 {
		first, _ := impl.WebNew(3)
		added, _ := impl.WebAdd(w, edge(3, 4))
		taken, place, found, _ := impl.WebTake(w, edge(0, 1))
		f, _ := impl.ForestAt(w, 1)
		g, labels := impl.GraphOf(w), impl.WebLabels(w)
		wantTaken := sortedWeb(12, chainOf(1, 1, 2, 0), chainOf(0, 2, 3), []impl.Ledge{beside(0, 3, 0)})
		if !sameWeb(first, webOf(3)) || !sameWeb(added, addedByWords(was, edge(3, 4))) || !sameWeb(taken, wantTaken) || place != edge(0, 2) || !found {
			t.Fatalf("WebNew(3) = %v, WebAdd(%v) = %v, WebTake = %v, %v, %v", first, w, added, taken, place, found)
		}
		if planted, _ := plantedByWords(was, 1); !sameForest(f, planted) || !sameGraph(g, graphByWords(was)) || !slices.Equal(labels, labelsByWords(graphByWords(was))) {
			t.Fatalf("ForestAt(%v, 1) = %v, GraphOf %v, WebLabels %v", w, f, g, labels)
		}
		for _, answer := range []impl.Web{first, added, taken} {
			_ = append(answer.Edges, inForest(9, 9, 9))
			for at := range answer.Edges {
				answer.Edges[at] = inForest(9, 9, 9)
			}
		}
		f.Tours[0][0], g.Edges[0], labels[0] = 9, edge(9, 9), 9
		if !sameWeb(w, was) {
			t.Fatalf("the web is now %v", w)
		}
	}
}
