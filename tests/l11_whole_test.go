package tests

import (
	"math"
	"slices"
	"testing"

	"loop.example/g00130/impl"
)

// wholeCase is what WholeLabels is handed.
type wholeCase struct {
	n     int
	lists [][]int
	cuts  []impl.Edge
}

func wholeOkByWords(c wholeCase) bool {
	if c.n < 1 || c.n > 12 || len(c.lists) > 3 {
		return false
	}
	for _, labels := range c.lists {
		if len(labels) != c.n {
			return false
		}
		for v, label := range labels {
			if !slices.Contains(countTo(v+1), label) {
				return false
			}
		}
	}
	for _, e := range c.cuts {
		if !slices.Contains(allEdges(c.n), e) {
			return false
		}
	}
	return true
}

// wholeByWords makes one graph of the cuts, and of an edge from each vertex to each of its labels.
func wholeByWords(c wholeCase) ([]int, bool) {
	if !wholeOkByWords(c) {
		return nil, false
	}
	g := graphOf(c.n)
	for _, e := range allEdges(c.n) {
		told := slices.ContainsFunc(c.lists, func(labels []int) bool { return labels[e.B] == e.A })
		if told || slices.Contains(c.cuts, e) {
			g.Edges = append(g.Edges, e)
		}
	}
	return labelsByWords(g), true
}

func wantWhole(t *testing.T, why string, c wholeCase, want ...int) {
	t.Helper()
	if got, ok := impl.WholeLabels(c.n, c.lists, c.cuts); !ok || !slices.Equal(got, want) {
		t.Errorf("%s: WholeLabels(%v) = %v, %v; want %v, true", why, c, got, ok, want)
	}
}

func wantNoWhole(t *testing.T, why string, c wholeCase) {
	t.Helper()
	if got, ok := impl.WholeLabels(c.n, c.lists, c.cuts); ok || len(got) > 0 {
		t.Errorf("%s: WholeLabels(%v) = %v, %v; want nothing, false", why, c, got, ok)
	}
}

// wantWholeByWords tells whether there was something to answer.
func wantWholeByWords(t *testing.T, c wholeCase) bool {
	t.Helper()
	want, right := wholeByWords(c)
	if right {
		wantWhole(t, "by words", c, want...)
	} else {
		wantNoWhole(t, "by words", c)
	}
	return right
}

func TestWholeLabelsByHand(t *testing.T) {
	none, alone := [][]int{}, []int{0, 1, 2, 3}
	for _, c := range []struct {
		why   string
		lists [][]int
		cuts  []impl.Edge
		want  []int
	}{
		{"nothing hangs together", nil, nil, alone},
		{"lists that are empty, not nil", none, []impl.Edge{}, alone},
		{"a list of each vertex itself", [][]int{alone}, nil, alone},
		{"three of them", [][]int{alone, alone, alone}, nil, alone},
		{"by one list", [][]int{{0, 1, 0, 1}}, nil, []int{0, 1, 0, 1}},
		{"by two lists", [][]int{{0, 0, 2, 3}, {0, 1, 2, 2}}, nil, []int{0, 0, 2, 2}},
		{"by the last of three lists", [][]int{alone, alone, {0, 1, 1, 3}}, nil, []int{0, 1, 1, 3}},
		{"each list joins one", [][]int{{0, 0, 2, 3}, {0, 1, 1, 3}, {0, 1, 2, 2}}, nil, []int{0, 0, 0, 0}},
		{"each list joins one, the least last", [][]int{{0, 1, 2, 2}, {0, 1, 1, 3}, {0, 0, 2, 3}}, nil, []int{0, 0, 0, 0}},
		{"the same list more than once", [][]int{{0, 1, 1, 3}, {0, 1, 1, 3}, {0, 1, 1, 3}}, nil, []int{0, 1, 1, 3}},
		{"by a cut alone", nil, []impl.Edge{edge(1, 3)}, []int{0, 1, 2, 1}},
		{"by a cut alone, beside a list", [][]int{{0, 0, 2, 3}}, []impl.Edge{edge(2, 3)}, []int{0, 0, 2, 2}},
		{"by cuts that stand in no order", nil, []impl.Edge{edge(2, 3), edge(0, 1), edge(1, 2)}, []int{0, 0, 0, 0}},
		{"by a list, then a cut", [][]int{{0, 0, 2, 3}}, []impl.Edge{edge(1, 3)}, []int{0, 0, 2, 0}},
		{"by a list, then a cut, then another list", [][]int{{0, 0, 2, 3}, {0, 1, 2, 2}}, []impl.Edge{edge(1, 3)}, []int{0, 0, 0, 0}},
		{"the lists the other way round", [][]int{{0, 1, 2, 2}, {0, 0, 2, 3}}, []impl.Edge{edge(1, 3)}, []int{0, 0, 0, 0}},
		{"a label that goes on", [][]int{{0, 0, 1, 3}}, nil, []int{0, 0, 0, 3}},
		{"labels that go on and on", [][]int{{0, 0, 1, 2}}, nil, []int{0, 0, 0, 0}},
		{"a label that goes on in its list, and a cut", [][]int{{0, 1, 1, 2}}, []impl.Edge{edge(0, 3)}, []int{0, 0, 0, 0}},
		{"a label that goes on in another list", [][]int{{0, 1, 2, 2}, {0, 1, 1, 3}}, nil, []int{0, 1, 1, 1}},
		{"a cut that stands there twice", nil, []impl.Edge{edge(1, 2), edge(1, 2)}, []int{0, 1, 1, 3}},
		{"a cut that stands there twice, apart", nil, []impl.Edge{edge(1, 2), edge(0, 3), edge(1, 2)}, []int{0, 1, 1, 0}},
		{"a cut of what hangs together by a list", [][]int{{0, 1, 1, 3}}, []impl.Edge{edge(1, 2)}, []int{0, 1, 1, 3}},
		{"a cut of what hangs together by cuts", nil, []impl.Edge{edge(0, 1), edge(1, 2), edge(0, 2)}, []int{0, 0, 0, 3}},
		{"all cuts that there may be", nil, allEdges(4), []int{0, 0, 0, 0}},
	} {
		wantWhole(t, c.why, wholeCase{4, c.lists, c.cuts}, c.want...)
	}
}

func TestWholeLabelsOfFewAndManyVertices(t *testing.T) {
	wantWhole(t, "one vertex", wholeCase{1, nil, nil}, 0)
	wantWhole(t, "one vertex, and as many lists as may be", wholeCase{1, [][]int{{0}, {0}, {0}}, nil}, 0)
	for n := 1; n <= impl.MaxVerts; n++ {
		nought, chain, wide := make([]int, n), []int{0}, []impl.Edge{}
		for v := 1; v < n; v++ {
			chain = append(chain, v-1)
			wide = append(wide, edge(n-1-v, n-v))
		}
		wantWhole(t, "no lists and no cuts", wholeCase{n, nil, nil}, countTo(n)...)
		wantWhole(t, "lists of noughts", wholeCase{n, [][]int{countTo(n), nought}, nil}, nought...)
		wantWhole(t, "each label is the vertex ahead", wholeCase{n, [][]int{chain}, nil}, nought...)
		wantWhole(t, "cuts from the end on", wholeCase{n, nil, wide}, nought...)
		wantWhole(t, "more cuts than MaxEdges", wholeCase{n, nil, slices.Repeat(wide, 70)}, nought...)
	}
}

// The first and the last vertex hang together by as many lists as may be, and the cuts between them.
func TestWholeLabelsByTurns(t *testing.T) {
	one, two, three := countTo(12), countTo(12), countTo(12)
	one[11], two[10], three[9] = 7, 3, 1
	cuts := []impl.Edge{edge(7, 10), edge(3, 9), edge(0, 1)}
	c := wholeCase{12, [][]int{one, two, three}, cuts}
	wantWhole(t, "all", c, 0, 0, 2, 0, 4, 5, 6, 0, 8, 0, 0, 0)
	c.cuts = cuts[:2]
	wantWhole(t, "without the last cut", c, 0, 1, 2, 1, 4, 5, 6, 1, 8, 1, 1, 1)
	c.cuts = cuts[1:]
	wantWhole(t, "without the first cut", c, 0, 0, 2, 0, 4, 5, 6, 7, 8, 0, 0, 7)
	c.cuts, c.lists = cuts, [][]int{one, three}
	wantWhole(t, "without the list in the middle", c, 0, 0, 2, 0, 4, 5, 6, 7, 8, 0, 7, 7)
}

// wrongWholes break one rule each.
func wrongWholes() map[string]wholeCase {
	four := countTo(4)
	list := map[string]wholeCase{
		"nothing":                              {},
		"one list too many":                    {4, [][]int{four, four, four, four}, nil},
		"far too many lists":                   {4, slices.Repeat([][]int{four}, 100), nil},
		"a list too many, which is empty":      {4, [][]int{four, four, four, nil}, nil},
		"a list of one too few":                {4, [][]int{{0, 1, 2}}, nil},
		"a list of one too many":               {4, [][]int{{0, 1, 2, 3, 4}}, nil},
		"a list of one too many, which is 0":   {4, [][]int{{0, 1, 2, 3, 0}}, nil},
		"an empty list":                        {4, [][]int{{}}, nil},
		"a list that is nil":                   {4, [][]int{nil}, nil},
		"the second list is empty":             {4, [][]int{four, {}}, nil},
		"the last list is one too short":       {4, [][]int{four, four, {0, 1, 2}}, nil},
		"the first list is one too long":       {4, [][]int{{0, 1, 2, 3, 4}, four, four}, nil},
		"an empty list for one vertex":         {1, [][]int{{}}, nil},
		"two labels for one vertex":            {1, [][]int{{0, 0}}, nil},
		"a label below 0, the first":           {4, [][]int{{-1, 1, 2, 3}}, nil},
		"a label below 0, the last":            {4, [][]int{{0, 1, 2, -1}}, nil},
		"a label far below 0":                  {4, [][]int{{0, 1, math.MinInt, 3}}, nil},
		"a label above its place, the first":   {4, [][]int{{1, 1, 2, 3}}, nil},
		"a label above its place, between":     {4, [][]int{{0, 2, 2, 3}}, nil},
		"a label that is no vertex":            {4, [][]int{{0, 1, 2, 4}}, nil},
		"a label far above":                    {4, [][]int{{0, 1, 2, math.MaxInt}}, nil},
		"a label above its place, second list": {4, [][]int{four, {0, 1, 3, 3}}, nil},
		"a label below 0, third list":          {4, [][]int{four, four, {0, -1, 2, 3}}, nil},
		"a cut of a vertex with itself":        {4, nil, []impl.Edge{edge(1, 1)}},
		"a cut the other way round":            {4, nil, []impl.Edge{edge(3, 1)}},
		"a cut with an end below 0":            {4, nil, []impl.Edge{edge(-1, 1)}},
		"a cut with an end of n":               {4, nil, []impl.Edge{edge(1, 4)}},
		"a cut with both ends above":           {4, nil, []impl.Edge{edge(4, 5)}},
		"a cut with both ends below":           {4, nil, []impl.Edge{edge(-2, -1)}},
		"a cut of one vertex":                  {1, nil, []impl.Edge{edge(0, 1)}},
		"a cut behind a right one":             {4, nil, []impl.Edge{edge(0, 1), edge(1, 4)}},
		"a cut ahead of a right one":           {4, nil, []impl.Edge{edge(1, 0), edge(0, 1)}},
		"a cut behind right lists":             {4, [][]int{four, four, four}, []impl.Edge{edge(2, 2)}},
		"a cut behind more than there may be":  {12, nil, append(oneTooMany(), edge(0, 12))},
		"a list, with right cuts":              {4, [][]int{{0, 1, 2}}, []impl.Edge{edge(0, 1)}},
	}
	for _, n := range numbersOutOf(1, impl.MaxVerts) {
		size := min(max(n, 0), 20)
		list["n out of its bounds, "+tell(n)] = wholeCase{n, nil, nil}
		list["n out of its bounds, with a cut, "+tell(n)] = wholeCase{n, nil, []impl.Edge{edge(0, 1)}}
		list["n out of its bounds, with lists, "+tell(n)] = wholeCase{n, [][]int{countTo(size), make([]int, size)}, nil}
	}
	for at, e := range wrongEdges(4) {
		list["a wrong cut, "+tell(at)] = wholeCase{4, [][]int{four}, []impl.Edge{edge(0, 1), e, edge(2, 3)}}
	}
	return list
}

func TestWholeLabelsRefuses(t *testing.T) {
	for why, c := range wrongWholes() {
		if wholeOkByWords(c) {
			t.Fatalf("%s: the test has the right %v", why, c)
		}
		wantNoWhole(t, why, c)
	}
}

// listsOn has each list of so many numbers in from .. to.
func listsOn(size, from, to int) [][]int {
	if size == 0 {
		return [][]int{{}}
	}
	lists := [][]int{}
	for _, shorter := range listsOn(size-1, from, to) {
		for n := from; n <= to; n++ {
			lists = append(lists, append(slices.Clone(shorter), n))
		}
	}
	return lists
}

// rightLists has each list of labels of n vertices that WholeLabels takes.
func rightLists(n int) [][]int {
	return slices.DeleteFunc(listsOn(n, 0, n-1), func(labels []int) bool {
		return !wholeOkByWords(wholeCase{n, [][]int{labels}, nil})
	})
}

func TestWholeLabelsOfEverySmallCase(t *testing.T) {
	for n := 1; n <= 4; n++ {
		lists := rightLists(n)
		several := [][][]int{{}}
		for _, one := range lists {
			several = append(several, [][]int{one})
			for _, two := range lists {
				several = append(several, [][]int{one, two})
				if n <= 3 {
					for _, three := range lists {
						several = append(several, [][]int{one, two, three})
					}
				}
			}
		}
		for _, lists := range several {
			for bits := range 1 << len(allEdges(n)) {
				if !wantWholeByWords(t, wholeCase{n, lists, pickedGraph(n, bits).Edges}) {
					t.Fatalf("the lists %v of %d vertices are not right", lists, n)
				}
			}
		}
	}
}

func TestWholeLabelsOfEveryShortList(t *testing.T) {
	right := 0
	for n := 0; n <= 4; n++ {
		for size := 0; size <= 5; size++ {
			for _, labels := range listsOn(size, -1, 4) {
				if wantWholeByWords(t, wholeCase{n, [][]int{labels}, nil}) {
					right++
				}
			}
		}
	}
	if right != 1+2+6+24 {
		t.Errorf("%d lists are right; want 33", right)
	}
}

func TestWholeLabelsOfEveryCut(t *testing.T) {
	right := 0
	for n := -1; n <= impl.MaxVerts+1; n++ {
		for a := -2; a <= impl.MaxVerts+2; a++ {
			for b := -2; b <= impl.MaxVerts+2; b++ {
				if wantWholeByWords(t, wholeCase{n, nil, []impl.Edge{edge(a, b)}}) {
					right++
				}
			}
		}
	}
	if right != 286 { // of 1 .. 12 vertices 0, 1, 3, 6, 10 .. 66
		t.Errorf("%d cuts are right; want 286", right)
	}
}

// labels are drawn such that some vertices are alone, some labels are of themselves, and some go on.
func (n *drawnNumber) labels(verts int) []int {
	labels, share := countTo(verts), n.below(8)
	for v := range labels {
		if n.below(8) < share {
			labels[v] = n.below(v + 1)
		}
	}
	return labels
}

// mixed is the list in a drawn order.
func mixed[T any](n *drawnNumber, list []T) []T {
	list = slices.Clone(list)
	for at := range list {
		other := n.below(at + 1)
		list[at], list[other] = list[other], list[at]
	}
	return list
}

func (n *drawnNumber) whole(verts int) wholeCase {
	c := wholeCase{n: verts}
	for range n.below(impl.MaxShards + 1) {
		c.lists = append(c.lists, n.labels(verts))
	}
	if edges := n.graph(verts).Edges; n.below(4) > 0 {
		c.cuts = mixed(n, slices.Concat(edges[:min(len(edges), n.below(8))], edges[:min(len(edges), n.below(3))]))
	}
	return c
}

// spoilt is the case with one number, list, or cut that may be wrong.
func (n *drawnNumber) spoilt(c wholeCase) wholeCase {
	number := n.below(c.n+4) - 2
	switch n.below(5) {
	case 0:
		c.n = number
	case 1:
		c.cuts = append(c.cuts, edge(number, n.below(c.n)))
	case 2:
		c.cuts = append([]impl.Edge{edge(n.below(c.n), number)}, c.cuts...)
	case 3:
		c.lists = append(c.lists, n.labels(max(number, 0)))
	case 4:
		if len(c.lists) > 0 {
			c.lists[n.below(len(c.lists))][n.below(c.n)] = number
		}
	}
	return c
}

func TestWholeLabelsOfDrawnCases(t *testing.T) {
	drawn, right, wrong := drawnNumber(111), 0, 0
	for at := range 12000 {
		c := drawn.whole(1 + at%impl.MaxVerts)
		if !wantWholeByWords(t, c) {
			t.Fatalf("%v is not right", c)
		}
		if wantWholeByWords(t, drawn.spoilt(c)) {
			right++
		} else {
			wrong++
		}
	}
	if right < 2000 || wrong < 2000 {
		t.Errorf("only %d right cases, %d others", right, wrong)
	}
}

// Each answer is the least of what hangs together, and so the label of itself: told as one more list it
// changes nothing.
func TestWholeLabelsAreLabels(t *testing.T) {
	drawn := drawnNumber(112)
	for at := range 3000 {
		c := drawn.whole(1 + at%impl.MaxVerts)
		got, _ := impl.WholeLabels(c.n, c.lists, c.cuts)
		if !labelsOkByWords(c.n, got) {
			t.Fatalf("WholeLabels(%v) = %v, which are no labels", c, got)
		}
		wantWhole(t, "of the answer", wholeCase{c.n, [][]int{got}, nil}, got...)
		if len(c.lists) < impl.MaxShards {
			wantWhole(t, "with the answer", wholeCase{c.n, append(slices.Clone(c.lists), got), c.cuts}, got...)
		}
		wantWhole(t, "in another order", wholeCase{c.n, mixed(&drawn, c.lists), mixed(&drawn, c.cuts)}, got...)
	}
}

// partedBy gives each edge to one of so many parts, or to the cuts.
func partedBy(g impl.Graph, parts int, part func(impl.Edge) int) ([]impl.Graph, []impl.Edge) {
	graphs, cuts := make([]impl.Graph, parts), []impl.Edge{}
	for at := range graphs {
		graphs[at].N = g.N
	}
	for _, e := range g.Edges {
		if at := part(e); at < parts {
			graphs[at].Edges = append(graphs[at].Edges, e)
		} else {
			cuts = append(cuts, e)
		}
	}
	return graphs, cuts
}

// goneOn has for each vertex that is not the least of its part some lesser one of it, so that labels go on.
func (n *drawnNumber) goneOn(labels []int) []int {
	list := slices.Clone(labels)
	for v := range list {
		for range 8 {
			if other := n.below(v + 1); other < v && labels[other] == labels[v] {
				list[v] = other
			}
		}
	}
	return list
}

// wantWholeOfParts holds the labels of parts and cuts, and the edges of all of them, to the whole graph.
func wantWholeOfParts(t *testing.T, drawn *drawnNumber, g impl.Graph, parts []impl.Graph, cuts []impl.Edge) {
	t.Helper()
	lists, going, edges := [][]int{}, [][]int{}, [][]impl.Edge{}
	for _, part := range parts {
		labels := impl.Labels(part)
		lists, going, edges = append(lists, labels), append(going, drawn.goneOn(labels)), append(edges, part.Edges)
	}
	want := impl.Labels(g)
	wantWhole(t, "of parts", wholeCase{g.N, lists, cuts}, want...)
	wantWhole(t, "of parts, with labels that go on", wholeCase{g.N, going, cuts}, want...)
	wantEdges(t, "of parts", edges, cuts, g.Edges...)
}

func TestWholeLabelsOfEverySmallGraphInParts(t *testing.T) {
	drawn := drawnNumber(113)
	for _, g := range everySmallGraph() {
		for parts := range impl.MaxShards + 1 {
			graphs, cuts := partedBy(g, parts, func(impl.Edge) int { return drawn.below(parts + 1) })
			wantWholeOfParts(t, &drawn, g, graphs, cuts)
		}
	}
}

func TestWholeLabelsOfDrawnGraphsInParts(t *testing.T) {
	drawn := drawnNumber(114)
	for _, g := range drawnGraphs() {
		for parts := range impl.MaxShards + 1 {
			for _, more := range []int{0, 1, 4, 30} { // no edge is a cut, then some, then more, then nearly all
				graphs, cuts := partedBy(g, parts, func(impl.Edge) int { return drawn.below(max(parts+more, 1)) })
				wantWholeOfParts(t, &drawn, g, graphs, cuts)
			}
		}
	}
}

// owners has for each vertex one of so many shards.
func (n *drawnNumber) owners(verts, shards int) []int {
	own := make([]int, verts)
	for v := range own {
		own[v] = 1 + n.below(shards)
	}
	return own
}

// What each shard has inside, and the edges between shards, are the whole graph.
func TestWholeOfShardsThatOwn(t *testing.T) {
	drawn, between := drawnNumber(115), 0
	for _, g := range append(everyFew(everySmallGraph(), 3), drawnGraphs()...) {
		for shards := 1; shards <= impl.MaxShards; shards++ {
			own, parts := drawn.owners(g.N, shards), []impl.Graph{}
			for shard := 1; shard <= shards; shard++ {
				parts = append(parts, graphOf(g.N, impl.Inside(own, g.Edges, shard)...))
			}
			cuts := slices.DeleteFunc(slices.Clone(g.Edges), func(e impl.Edge) bool { return own[e.A] == own[e.B] })
			between += len(cuts)
			wantWholeOfParts(t, &drawn, g, parts, cuts)
		}
	}
	if between < 1000 {
		t.Errorf("only %d edges lay between shards", between)
	}
}

// Shards that obey, and the edges between them, tell what the graph of all edges tells.
func TestWholeOfShardsThatObey(t *testing.T) {
	drawn, took := drawnNumber(116), 0
	for n := 2; n <= impl.MaxVerts; n++ {
		own, g, cuts, shards := drawn.owners(n, impl.MaxShards), graphOf(n), graphOf(n), []impl.Shard{}
		for id := 1; id <= impl.MaxShards; id++ {
			s, _ := impl.ShardNew(id, n)
			shards = append(shards, s)
		}
		for range 100 {
			e, op := allEdges(n)[drawn.below(len(allEdges(n)))], impl.OrderAdd
			change := impl.AddEdge
			if impl.HasEdge(g, e) {
				op, change = impl.OrderTake, impl.TakeEdge
				took++
			}
			g, _ = change(g, e)
			if own[e.A] != own[e.B] {
				cuts, _ = change(cuts, e)
			} else {
				s := &shards[own[e.A]-1]
				*s, _, _ = impl.Obey(*s, orderOf(s.Last.Num+1, op, 0, e))
			}
			lists, edges := [][]int{}, [][]impl.Edge{}
			for _, s := range shards {
				lists, edges = append(lists, impl.WebLabels(s.Web)), append(edges, impl.Owned(s))
			}
			wantWhole(t, "of shards", wholeCase{n, lists, cuts.Edges}, labelsByWords(g)...)
			wantEdges(t, "of shards", edges, cuts.Edges, g.Edges...)
		}
	}
	if took < 100 {
		t.Errorf("only %d edges were taken", took)
	}
}

func wantEdges(t *testing.T, why string, lists [][]impl.Edge, cuts []impl.Edge, want ...impl.Edge) {
	t.Helper()
	if got, ok := impl.WholeEdges(lists, cuts); !ok || !slices.Equal(got, want) {
		t.Errorf("%s: WholeEdges(%v, %v) = %v, %v; want %v, true", why, lists, cuts, got, ok, want)
	}
}

func wantNoEdges(t *testing.T, why string, lists [][]impl.Edge, cuts []impl.Edge) {
	t.Helper()
	if got, ok := impl.WholeEdges(lists, cuts); ok || len(got) > 0 {
		t.Errorf("%s: WholeEdges(%v, %v) = %v, %v; want nothing, false", why, lists, cuts, got, ok)
	}
}

func TestWholeEdgesByHand(t *testing.T) {
	e1, e2, e3, e4 := edge(0, 1), edge(0, 2), edge(1, 2), edge(2, 3)
	for _, c := range []struct {
		why   string
		lists [][]impl.Edge
		cuts  []impl.Edge
		want  []impl.Edge
	}{
		{"nothing", nil, nil, nil},
		{"lists that are empty, not nil", [][]impl.Edge{}, []impl.Edge{}, nil},
		{"empty lists", [][]impl.Edge{{}, nil, {}}, nil, nil},
		{"no lists, but cuts", nil, []impl.Edge{e1, e2}, []impl.Edge{e1, e2}},
		{"empty lists, and cuts", [][]impl.Edge{{}, {}}, []impl.Edge{e1}, []impl.Edge{e1}},
		{"one list", [][]impl.Edge{{e1, e2}}, nil, []impl.Edge{e1, e2}},
		{"an empty list between", [][]impl.Edge{{e1}, {}, {e2}}, nil, []impl.Edge{e1, e2}},
		{"a list and cuts", [][]impl.Edge{{e3}}, []impl.Edge{e1}, []impl.Edge{e1, e3}},
		{"a list in no order", [][]impl.Edge{{e4, e1, e3}}, nil, []impl.Edge{e1, e3, e4}},
		{"cuts in no order", nil, []impl.Edge{e3, e4, e2, e1}, []impl.Edge{e1, e2, e3, e4}},
		{"lists in no order", [][]impl.Edge{{e4}, {e2}, {e1}}, []impl.Edge{e3}, []impl.Edge{e1, e2, e3, e4}},
		{"lists that lie in each other", [][]impl.Edge{{e1, e4}, {e3}}, []impl.Edge{e2}, []impl.Edge{e1, e2, e3, e4}},
		{"by A, then B", [][]impl.Edge{{edge(1, 2), edge(0, 11)}}, []impl.Edge{edge(0, 3)}, []impl.Edge{edge(0, 3), edge(0, 11), edge(1, 2)}},
	} {
		wantEdges(t, c.why, c.lists, c.cuts, c.want...)
	}
}

func TestWholeEdgesOfEdgesThatStandTwice(t *testing.T) {
	e1, e2, e3 := edge(0, 1), edge(0, 2), edge(1, 2)
	for _, e := range []impl.Edge{e1, edge(3, 3), edge(2, 0), edge(-1, 5), edge(math.MinInt, math.MaxInt), edge(0, 0)} {
		wantNoEdges(t, "in one list", [][]impl.Edge{{e, e}}, nil)
		wantNoEdges(t, "in one list, apart", [][]impl.Edge{{e, e2, e3, e}}, nil)
		wantNoEdges(t, "in the last list", [][]impl.Edge{{e2}, {e3}, {e, e}}, nil)
		wantNoEdges(t, "in two lists", [][]impl.Edge{{e}, {e}}, nil)
		wantNoEdges(t, "in two lists, apart", [][]impl.Edge{{e2, e}, {}, {e, e3}}, nil)
		wantNoEdges(t, "in a list and the cuts", [][]impl.Edge{{e}}, []impl.Edge{e})
		wantNoEdges(t, "in a list and the cuts, among others", [][]impl.Edge{{e3}, {e}}, []impl.Edge{e2, e})
		wantNoEdges(t, "in the cuts", nil, []impl.Edge{e, e})
		wantNoEdges(t, "in the cuts, apart", [][]impl.Edge{{e3}}, []impl.Edge{e, e2, e})
		wantNoEdges(t, "three times", [][]impl.Edge{{e}, {e}}, []impl.Edge{e})
	}
	wantNoEdges(t, "all", [][]impl.Edge{allEdges(12)}, allEdges(12))
	wantNoEdges(t, "one of all", [][]impl.Edge{allEdges(12)}, []impl.Edge{edge(10, 11)})
}

// No right edge is asked for, nor a number of lists or edges; the two ways round an edge is not the same.
func TestWholeEdgesOfAnyEdges(t *testing.T) {
	wantEdges(t, "both ways round", [][]impl.Edge{{edge(1, 0)}}, []impl.Edge{edge(0, 1)}, edge(0, 1), edge(1, 0))
	wantEdges(t, "of a vertex with itself", [][]impl.Edge{{edge(2, 2)}}, nil, edge(2, 2))
	wantEdges(t, "ends that are no vertices", [][]impl.Edge{{edge(99, 100)}, {edge(-5, 3)}}, []impl.Edge{edge(-5, -6)}, edge(-5, -6), edge(-5, 3), edge(99, 100))
	least, most := math.MinInt, math.MaxInt
	wantEdges(t, "the greatest and the least ends", [][]impl.Edge{{edge(most, least), edge(0, most)}, {edge(least, most)}},
		[]impl.Edge{edge(most, most), edge(0, least), edge(least, least)},
		edge(least, least), edge(least, most), edge(0, least), edge(0, most), edge(most, least), edge(most, most))
	single, many := [][]impl.Edge{}, []impl.Edge{}
	for v := range 300 {
		single, many = append(single, []impl.Edge{edge(1000-v, v)}), append(many, edge(701+v, 299-v))
	}
	wantEdges(t, "more lists than MaxShards", single, nil, many...)
	wantEdges(t, "more cuts than MaxEdges", nil, slices.Concat(single...), many...)
	both := append(slices.Clone(wrongEdges(4)), allEdges(4)...)
	slices.SortFunc(both, func(a, b impl.Edge) int {
		if a.A < b.A || a.A == b.A && a.B < b.B {
			return -1
		}
		return 1
	})
	wantEdges(t, "wrong and right ones", [][]impl.Edge{wrongEdges(4)}, allEdges(4), both...)
}

// dealt has the edges in so many lists and cuts, in drawn order.
func (n *drawnNumber) dealt(edges []impl.Edge, count int) ([][]impl.Edge, []impl.Edge) {
	lists, cuts := make([][]impl.Edge, count), []impl.Edge{}
	for _, e := range mixed(n, edges) {
		if at := n.below(count + 1); at < count {
			lists[at] = append(lists[at], e)
		} else {
			cuts = append(cuts, e)
		}
	}
	return lists, cuts
}

func TestWholeEdgesOfDrawnGraphs(t *testing.T) {
	drawn, twice := drawnNumber(117), 0
	for at, g := range append(everyFew(everySmallGraph(), 2), drawnGraphs()...) {
		lists, cuts := drawn.dealt(g.Edges, at%6)
		wantEdges(t, "each once", lists, cuts, g.Edges...)
		if len(g.Edges) > 0 {
			again := g.Edges[drawn.below(len(g.Edges))]
			lists, cuts = drawn.dealt(append(slices.Clone(g.Edges), again), at%6)
			wantNoEdges(t, "one twice", lists, cuts)
			twice++
		}
	}
	if twice < 500 {
		t.Errorf("only %d graphs had an edge", twice)
	}
}

func wantInside(t *testing.T, why string, own []int, edges []impl.Edge, shard int, want ...impl.Edge) {
	t.Helper()
	if got := impl.Inside(own, edges, shard); !slices.Equal(got, want) {
		t.Errorf("%s: Inside(%v, %v, %d) = %v; want %v", why, own, edges, shard, got, want)
	}
}

func TestInsideByHand(t *testing.T) {
	own := []int{1, 2, 1, 3, 2, 1}
	for _, c := range []struct {
		why   string
		edges []impl.Edge
		shard int
		want  []impl.Edge
	}{
		{"no edges", nil, 1, nil},
		{"edges that are empty, not nil", []impl.Edge{}, 1, nil},
		{"both ends", []impl.Edge{edge(0, 2)}, 1, []impl.Edge{edge(0, 2)}},
		{"both ends, of another shard", []impl.Edge{edge(1, 4)}, 2, []impl.Edge{edge(1, 4)}},
		{"the lesser end alone", []impl.Edge{edge(0, 1)}, 1, nil},
		{"the greater end alone", []impl.Edge{edge(1, 2)}, 1, nil},
		{"no end, both of one shard", []impl.Edge{edge(1, 4)}, 1, nil},
		{"no end, of two shards", []impl.Edge{edge(3, 4)}, 1, nil},
		{"a shard with one vertex", allEdges(6), 3, nil},
		{"a shard that has nothing", allEdges(6), 4, nil},
		{"a shard of 0", allEdges(6), 0, nil},
		{"a shard below 0", allEdges(6), -1, nil},
		{"a shard far below", allEdges(6), math.MinInt, nil},
		{"a shard far above", allEdges(6), math.MaxInt, nil},
		{"some of all", allEdges(6), 1, []impl.Edge{edge(0, 2), edge(0, 5), edge(2, 5)}},
		{"in order as they stand", []impl.Edge{edge(2, 5), edge(0, 1), edge(0, 2), edge(1, 4), edge(0, 5)}, 1, []impl.Edge{edge(2, 5), edge(0, 2), edge(0, 5)}},
		{"more than once", []impl.Edge{edge(2, 5), edge(0, 2), edge(2, 5), edge(0, 1), edge(0, 1), edge(2, 5)}, 1, []impl.Edge{edge(2, 5), edge(0, 2), edge(2, 5), edge(2, 5)}},
		{"the other way round", []impl.Edge{edge(2, 0), edge(4, 2), edge(0, 2)}, 1, []impl.Edge{edge(2, 0), edge(0, 2)}},
		{"of a vertex with itself", []impl.Edge{edge(0, 0), edge(1, 1), edge(2, 2)}, 1, []impl.Edge{edge(0, 0), edge(2, 2)}},
	} {
		wantInside(t, c.why, own, c.edges, c.shard, c.want...)
	}
}

// An end that is no place of own is had by no shard, whichever is asked for.
func TestInsideOfEndsThatAreNoPlace(t *testing.T) {
	for _, shard := range []int{-1, 0, 1, 2, 77} {
		own := slices.Repeat([]int{shard}, 4)
		for _, none := range []int{math.MinInt, -4, -1, 4, 5, 1 << 32, math.MaxInt} {
			wantInside(t, "the lesser end", own, []impl.Edge{edge(none, 1)}, shard)
			wantInside(t, "the greater end", own, []impl.Edge{edge(1, none)}, shard)
			wantInside(t, "both ends", own, []impl.Edge{edge(none, none)}, shard)
			wantInside(t, "among others", own, []impl.Edge{edge(2, 3), edge(none, 0), edge(0, none), edge(0, 1)}, shard, edge(2, 3), edge(0, 1))
		}
		wantInside(t, "the last place", own, []impl.Edge{edge(0, 3)}, shard, edge(0, 3))
		wantInside(t, "no owners", nil, allEdges(4), shard)
		wantInside(t, "owners that are empty, not nil", []int{}, allEdges(4), shard)
		wantInside(t, "places in the spare room behind own", within(own[:2], shard), allEdges(4), shard, edge(0, 1))
	}
}

// No number of own or shard is wrong: it is had, or it is not; nor does any limit hold for either list.
func TestInsideOfAnyNumbers(t *testing.T) {
	own := []int{0, math.MinInt, 0, math.MaxInt, math.MinInt, -7, math.MaxInt, -7}
	wantInside(t, "0", own, allEdges(8), 0, edge(0, 2))
	wantInside(t, "the least", own, allEdges(8), math.MinInt, edge(1, 4))
	wantInside(t, "the greatest", own, allEdges(8), math.MaxInt, edge(3, 6))
	wantInside(t, "below 0", own, allEdges(8), -7, edge(5, 7))
	long := slices.Repeat([]int{1, 2}, 50)
	want := slices.DeleteFunc(allEdges(100), func(e impl.Edge) bool { return e.A%2 == 0 || e.B%2 == 0 })
	wantInside(t, "more vertices than MaxVerts, and edges than MaxEdges", long, allEdges(100), 2, want...)
}

// Each edge of both ends of one shard is inside of that one alone, each other one of none.
func TestInsideOfDrawnEdges(t *testing.T) {
	drawn, inside, outside := drawnNumber(118), 0, 0
	for at := range 1500 {
		own, edges := drawn.owners(at%14, 1+at%4), []impl.Edge{}
		for range drawn.below(30) {
			edges = append(edges, edge(drawn.below(18)-2, drawn.below(18)-2))
		}
		for shard := range 6 {
			want := []impl.Edge{}
			for _, e := range edges {
				had := 0
				for v, owner := range own {
					if owner == shard && v == e.A {
						had++
					}
					if owner == shard && v == e.B {
						had++
					}
				}
				if had == 2 {
					want = append(want, e)
				}
			}
			inside, outside = inside+len(want), outside+len(edges)-len(want)
			wantInside(t, "drawn", own, edges, shard, want...)
		}
	}
	if inside < 1000 || outside < 1000 {
		t.Errorf("only %d edges were inside, %d not", inside, outside)
	}
}

// listsWithin is a copy that has room behind each list, and behind all of them, which nobody may write into.
func listsWithin[T any](lists [][]T, fill T) [][]T {
	room := [][]T{}
	for _, list := range lists {
		room = append(room, within(list, fill))
	}
	return within(room, []T{fill})
}

func wantListsUntouched[T comparable](t *testing.T, lists [][]T, was [][]T, fill T) {
	t.Helper()
	want := listsWithin(was, fill)
	same := func(one, other []T) bool {
		return slices.Equal(one[:min(cap(one), len(one)+4)], other[:min(cap(other), len(other)+4)])
	}
	if len(lists) != len(was) || !slices.EqualFunc(lists[:len(was)+4], want[:len(was)+4], same) {
		t.Fatalf("the lists, or the room behind them, are now %v; they were %v", lists[:cap(lists)], was)
	}
}

func wantListUntouched[T comparable](t *testing.T, list []T, was []T, fill T) {
	t.Helper()
	wantListsUntouched(t, within([][]T{list}, []T{fill}), [][]T{was}, fill)
}

// spoil writes over an answer, and into the room behind it.
func spoil[T any](list []T, fill T) {
	list = list[:cap(list)]
	for at := range list {
		list[at] = fill
	}
}

func wantWholeLabelsApart(t *testing.T, c wholeCase) {
	t.Helper()
	fill := edge(77, 78)
	lists, cuts := listsWithin(c.lists, 77), within(c.cuts, fill)
	one, ok := impl.WholeLabels(c.n, lists, cuts)
	want := slices.Clone(one)
	two, _ := impl.WholeLabels(c.n, lists, cuts)
	wantApart(t, "the labels", append(slices.Clone(lists), one, two)...)
	spoil(one, 99)
	three, again := impl.WholeLabels(c.n, lists, cuts)
	if ok != again || !slices.Equal(two, want) || !slices.Equal(three, want) {
		t.Fatalf("WholeLabels(%v) = %v, %v; then %v, and %v, %v", c, want, ok, two, three, again)
	}
	wantListsUntouched(t, lists, c.lists, 77)
	wantListUntouched(t, cuts, c.cuts, fill)
}

func wantWholeEdgesApart(t *testing.T, was [][]impl.Edge, wasCuts []impl.Edge) {
	t.Helper()
	fill := edge(77, 78)
	lists, cuts := listsWithin(was, fill), within(wasCuts, fill)
	one, ok := impl.WholeEdges(lists, cuts)
	want := slices.Clone(one)
	two, _ := impl.WholeEdges(lists, cuts)
	wantApart(t, "the edges", append(slices.Clone(lists), cuts, one, two)...)
	spoil(one, edge(99, 99))
	three, again := impl.WholeEdges(lists, cuts)
	if ok != again || !slices.Equal(two, want) || !slices.Equal(three, want) {
		t.Fatalf("WholeEdges(%v, %v) = %v, %v; then %v, and %v, %v", was, wasCuts, want, ok, two, three, again)
	}
	wantListsUntouched(t, lists, was, fill)
	wantListUntouched(t, cuts, wasCuts, fill)
}

func wantInsideApart(t *testing.T, wasOwn []int, wasEdges []impl.Edge, shard int) {
	t.Helper()
	fill := edge(77, 78)
	own, edges := within(wasOwn, 77), within(wasEdges, fill)
	one := impl.Inside(own, edges, shard)
	want := slices.Clone(one)
	two := impl.Inside(own, edges, shard)
	wantApart(t, "the edges inside", edges, one, two)
	spoil(one, edge(99, 99))
	if three := impl.Inside(own, edges, shard); !slices.Equal(two, want) || !slices.Equal(three, want) {
		t.Fatalf("Inside(%v, %v, %d) = %v; then %v, and %v", wasOwn, wasEdges, shard, want, two, three)
	}
	wantListUntouched(t, own, wasOwn, 77)
	wantListUntouched(t, edges, wasEdges, fill)
}

func TestWholesLeaveArgumentsAlone(t *testing.T) {
	drawn := drawnNumber(119)
	for _, c := range wrongWholes() {
		wantWholeLabelsApart(t, c)
	}
	for at := range 600 {
		n := 1 + at%impl.MaxVerts
		wantWholeLabelsApart(t, drawn.whole(n))
		wantWholeLabelsApart(t, drawn.spoilt(drawn.whole(n)))
		edges := drawn.graph(n).Edges
		lists, cuts := drawn.dealt(edges, at%5)
		wantWholeEdgesApart(t, lists, cuts)
		wantWholeEdgesApart(t, nil, edges)
		wantWholeEdgesApart(t, [][]impl.Edge{edges}, nil)
		wantWholeEdgesApart(t, [][]impl.Edge{edges, edges}, edges)
		for shard := range 4 {
			wantInsideApart(t, drawn.owners(n, 1+at%3), mixed(&drawn, edges), shard)
			wantInsideApart(t, drawn.owners(n/2, 1+at%3), mixed(&drawn, edges), shard)
		}
	}
	wantWholeEdgesApart(t, nil, nil)
	wantInsideApart(t, nil, nil, 0)
}
