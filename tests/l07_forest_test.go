package tests

import (
	"math"
	"slices"
	"testing"

	"loop.example/g00130/impl"
)

// forestOf is short for forests by hand; it asks for no order of the tours.
func forestOf(n int, tours ...[]int) impl.Forest { return impl.Forest{N: n, Tours: tours} }

func sameForest(a, b impl.Forest) bool {
	return a.N == b.N && slices.EqualFunc(a.Tours, b.Tours, slices.Equal[[]int])
}

// copied shares nothing with the forest.
func copied(f impl.Forest) impl.Forest {
	tours := [][]int{}
	for _, tour := range f.Tours {
		tours = append(tours, slices.Clone(tour))
	}
	return impl.Forest{N: f.N, Tours: tours}
}

// placeByWords needs no right forest: the first Tour in which v stands counts.
func placeByWords(f impl.Forest, v int) int {
	for place, tour := range f.Tours {
		if slices.Contains(tour, v) {
			return place
		}
	}
	return -1
}

// forestOkByWords asks each vertex that a tour may have for the Tours that it is in.
func forestOkByWords(f impl.Forest) bool {
	if f.N < 1 || f.N > impl.MaxVerts {
		return false
	}
	for _, tour := range f.Tours {
		if !tourOkByWords(tour) {
			return false
		}
	}
	next := 0 // the place of the Tour whose least vertex comes next
	for v := range impl.MaxVerts {
		holders := []int{}
		for place, tour := range f.Tours {
			if slices.Contains(tour, v) {
				holders = append(holders, place)
			}
		}
		if v >= f.N && len(holders) > 0 || v < f.N && len(holders) != 1 {
			return false
		}
		if v < f.N && holders[0] > next {
			return false
		}
		if v < f.N && holders[0] == next {
			next++
		}
	}
	return true
}

// inOrderByWords lays tours without a vertex in common by their least ones.
func inOrderByWords(n int, tours [][]int) impl.Forest {
	f := impl.Forest{N: n}
	for v := range n {
		for _, tour := range tours {
			if vertsByWords(tour)[0] == v {
				f.Tours = append(f.Tours, tour)
			}
		}
	}
	return f
}

// withoutPlaces are the Tours that stand elsewhere.
func withoutPlaces(f impl.Forest, places ...int) [][]int {
	tours := [][]int{}
	for place, tour := range f.Tours {
		if !slices.Contains(places, place) {
			tours = append(tours, tour)
		}
	}
	return tours
}

// linkedByWords is for right edges of right forests, whose ends are in two trees.
func linkedByWords(f impl.Forest, e impl.Edge) impl.Forest {
	one, two := placeByWords(f, e.A), placeByWords(f, e.B)
	joined := joinedByWords(lettersOf(f.Tours[one]), letterOf(e.A), lettersOf(f.Tours[two]), letterOf(e.B))
	return inOrderByWords(f.N, append(withoutPlaces(f, one, two), tourOfLetters(joined)))
}

// cutByWords is for edges that a Tour of a right forest goes along.
func cutByWords(f impl.Forest, e impl.Edge) impl.Forest {
	place := placeByWords(f, e.A)
	root, other := splitByWords(lettersOf(f.Tours[place]), letterOf(e.A), letterOf(e.B))
	return inOrderByWords(f.N, append(withoutPlaces(f, place), tourOfLetters(root), tourOfLetters(other)))
}

func edgesOfByWords(f impl.Forest) []impl.Edge {
	edges := []impl.Edge{}
	for _, e := range allEdges(f.N) {
		for _, tour := range f.Tours {
			if stepsByWords(tour)[e] > 0 {
				edges = append(edges, e)
			}
		}
	}
	return edges
}

// forestsOn has each list of tours that share these vertices out, the tour of the least one first.
func forestsOn(verts []int) [][][]int {
	if len(verts) == 0 {
		return [][][]int{{}}
	}
	forests := [][][]int{}
	for bits := range 1 << (len(verts) - 1) {
		first, rest := verts[:1:1], []int{}
		for i, v := range verts[1:] {
			if bits>>i&1 == 1 {
				first = append(first, v)
			} else {
				rest = append(rest, v)
			}
		}
		for _, others := range forestsOn(rest) {
			for _, tour := range toursOn(first) {
				forests = append(forests, slices.Concat([][]int{tour}, others))
			}
		}
	}
	return forests
}

// everySmallForest has each right forest of at most five vertices.
func everySmallForest() []impl.Forest {
	forests := []impl.Forest{}
	for n := 1; n <= 5; n++ {
		for _, tours := range forestsOn(pickedVerts(n, 1<<n-1)) {
			forests = append(forests, forestOf(n, tours...))
		}
	}
	return forests
}

// forest is drawn with few or many trees, of which each goes around in a drawn way.
func (n *drawnNumber) forest(verts int) impl.Forest {
	shares := make([][]int, 1+n.below(verts))
	for _, v := range n.order(verts) {
		at := n.below(len(shares))
		shares[at] = append(shares[at], v)
	}
	tours := [][]int{}
	for _, share := range shares {
		if len(share) > 0 {
			tours = append(tours, n.tour(share))
		}
	}
	return inOrderByWords(verts, tours)
}

func drawnForests() []impl.Forest {
	drawn, forests := drawnNumber(7), []impl.Forest{}
	for i := range 300 {
		forests = append(forests, drawn.forest(6+i%(impl.MaxVerts-5)))
	}
	return forests
}

func rightForests() []impl.Forest { return append(everySmallForest(), drawnForests()...) }

// wrongForests break one rule each; in most of them 0 and 1 are in two Tours, and 2 and 3 have an edge.
func wrongForests() map[string]impl.Forest {
	alone := [][]int{}
	for v := range impl.MaxVerts + 1 {
		alone = append(alone, []int{v})
	}
	forests := map[string]impl.Forest{
		"nothing":                       {},
		"N of 0":                        forestOf(0, []int{0}, []int{1}, []int{2, 3, 2}),
		"N of 0, one vertex":            forestOf(0, []int{0}),
		"N below 0":                     forestOf(-1, []int{0}, []int{1}, []int{2, 3, 2}),
		"N below 0, no Tours":           forestOf(-1),
		"N far below 0":                 forestOf(math.MinInt, []int{0}),
		"N far above":                   forestOf(math.MaxInt, alone...),
		"N above MaxVerts":              forestOf(impl.MaxVerts+1, alone...),
		"N above MaxVerts, no more":     forestOf(impl.MaxVerts+1, alone[:impl.MaxVerts]...),
		"N above MaxVerts, one tree":    forestOf(impl.MaxVerts+1, longTour()),
		"N of MaxVerts, one above":      forestOf(impl.MaxVerts, alone...),
		"N of MaxVerts, one missing":    forestOf(impl.MaxVerts, alone[:impl.MaxVerts-1]...),
		"N of 1, no Tours":              forestOf(1),
		"N of 1, another vertex":        forestOf(1, []int{1}),
		"N of 4, no Tours":              forestOf(4),
		"N of MaxVerts, no Tours":       forestOf(impl.MaxVerts),
		"the first in none":             forestOf(4, []int{1}, []int{2, 3, 2}),
		"one in none":                   forestOf(4, []int{0}, []int{2, 3, 2}),
		"the last in none":              forestOf(5, []int{0}, []int{1}, []int{2, 3, 2}),
		"in two, the first of both":     forestOf(4, []int{0}, []int{1, 0, 1}, []int{2, 3, 2}),
		"in two, not the first of both": forestOf(4, []int{0, 3, 0}, []int{1}, []int{2, 3, 2}),
		"in two, the rest ascends":      forestOf(4, []int{0, 2, 0}, []int{1, 2, 1}, []int{3}),
		"the same Tour twice":           forestOf(4, []int{0}, []int{0}, []int{1}, []int{2, 3, 2}),
		"the last Tour twice":           forestOf(4, []int{0}, []int{1}, []int{2, 3, 2}, []int{2, 3, 2}),
		"one in two, one in none":       forestOf(4, []int{0}, []int{1, 0, 1}, []int{3}),
		"one of N alone":                forestOf(4, []int{0}, []int{1}, []int{2, 3, 2}, []int{4}),
		"one of N in a tree":            forestOf(4, []int{0}, []int{1}, []int{2, 3, 4, 3, 2}),
		"one of N for another":          forestOf(4, []int{0}, []int{1}, []int{2, 4, 2}),
		"one far above":                 forestOf(4, []int{0}, []int{1}, []int{2, 3, 2}, []int{11}),
		"one of MaxVerts":               forestOf(4, []int{0}, []int{1}, []int{2, 3, 2}, []int{impl.MaxVerts}),
		"one below 0":                   forestOf(4, []int{-1}, []int{0}, []int{1}, []int{2, 3, 2}),
		"one below 0 in a tree":         forestOf(4, []int{0, -1, 0}, []int{1}, []int{2, 3, 2}),
		"an empty Tour ahead":           forestOf(4, []int{}, []int{0}, []int{1}, []int{2, 3, 2}),
		"an empty Tour between":         forestOf(4, []int{0}, nil, []int{1}, []int{2, 3, 2}),
		"an empty Tour behind":          forestOf(4, []int{0}, []int{1}, []int{2, 3, 2}, nil),
		"an empty Tour alone":           forestOf(1, nil),
		"two empty Tours":               forestOf(4, nil, nil),
		"the first two turned":          forestOf(4, []int{1}, []int{0}, []int{2, 3, 2}),
		"the last two turned":           forestOf(4, []int{0}, []int{2, 3, 2}, []int{1}),
		"the first one last":            forestOf(4, []int{1}, []int{2, 3, 2}, []int{0}),
		"by the first, not the least":   forestOf(4, []int{1}, []int{2, 3, 2, 0, 2}),
		"by the first, later":           forestOf(5, []int{0}, []int{2, 3, 2}, []int{4, 1, 4}),
		"by the greatest":               forestOf(4, []int{1, 2, 1}, []int{0, 3, 0}),
		"a Tour of no tree":             forestOf(4, []int{0}, []int{1}, []int{2, 3}),
		"a Tour that is a ring":         forestOf(5, []int{0}, []int{1}, []int{2, 3, 4, 2}),
		"a Tour with one twice":         forestOf(4, []int{0}, []int{1, 1}, []int{2, 3, 2}),
	}
	for what, wrong := range wrongTours() {
		verts := vertsByWords(wrong)
		tours := [][]int{wrong}
		for v := range impl.MaxVerts {
			if !slices.Contains(verts, v) {
				tours = append(tours, []int{v})
			}
		}
		forests["a Tour with "+what] = forestOf(impl.MaxVerts, tours...)
	}
	return forests
}

func TestForestNew(t *testing.T) {
	for n := 1; n <= impl.MaxVerts; n++ {
		want := impl.Forest{N: n}
		for v := range n {
			want.Tours = append(want.Tours, []int{v})
		}
		if got, ok := impl.ForestNew(n); !ok || !sameForest(got, want) || !impl.ForestOk(got) {
			t.Errorf("ForestNew(%d) = %v, %v; want %v, true", n, got, ok, want)
		}
	}
	for _, n := range []int{math.MinInt, -impl.MaxVerts, -2, -1, 0, impl.MaxVerts + 1, impl.MaxVerts + 2, 100, math.MaxInt} {
		if got, ok := impl.ForestNew(n); ok || got.N != 0 || len(got.Tours) != 0 {
			t.Errorf("ForestNew(%d) = %v, %v; want nothing, false", n, got, ok)
		}
	}
}

func TestForestOkByHand(t *testing.T) {
	for what, f := range map[string]impl.Forest{
		"N of 1":                        forestOf(1, []int{0}),
		"two alone":                     forestOf(2, []int{0}, []int{1}),
		"one tree of two":               forestOf(2, []int{0, 1, 0}),
		"one tree, the greater first":   forestOf(2, []int{1, 0, 1}),
		"one tree of all":               forestOf(impl.MaxVerts, longTour()),
		"the least is not the first":    forestOf(4, []int{3, 0, 3}, []int{2, 1, 2}),
		"the least is the last of all":  forestOf(5, []int{1, 3, 0, 3, 1}, []int{4, 2, 4}),
		"the first ones go down":        forestOf(6, []int{5, 0, 5}, []int{4, 1, 4}, []int{3, 2, 3}),
		"one alone between":             forestOf(4, []int{0, 3, 0}, []int{1}, []int{2}),
		"one alone ahead":               forestOf(4, []int{0}, []int{1}, []int{2, 3, 2}),
		"trees that lie in one another": forestOf(7, []int{0, 2, 6, 2, 0}, []int{1, 5, 1, 3, 1}, []int{4}),
	} {
		if !impl.ForestOk(f) || !forestOkByWords(f) {
			t.Errorf("%s: ForestOk(%v) is false", what, f)
		}
	}
	for what, f := range wrongForests() {
		if impl.ForestOk(f) || forestOkByWords(f) {
			t.Errorf("%s: ForestOk(%v) is true", what, f)
		}
	}
}

// Each list of at most three of these tours is right by the document's words alone, for each N.
func TestForestOkOfEveryShortList(t *testing.T) {
	pool := [][]int{{}, {-1}, {0}, {1}, {2}, {3}, {0, 1, 0}, {1, 0, 1}, {2, 0, 2}, {2, 1, 2}, {1, 2, 1}, {3, 0, 3}, {1, 3, 1}, {0, 1},
		{0, 1, 2, 0}, {1, 0, 2, 0, 1}, {2, 0, 1, 0, 2}, {3, 2, 1, 2, 3}, {3, 1, 0, 1, 2, 1, 3}, {0, 0}, {impl.MaxVerts}}
	lists, right := [][][]int{{}}, 0
	for range 4 {
		longer := [][][]int{}
		for _, tours := range lists {
			for n := -1; n <= 5; n++ {
				f, want := forestOf(n, tours...), forestOkByWords(forestOf(n, tours...))
				if impl.ForestOk(f) != want {
					t.Fatalf("ForestOk(%v) is %v", f, !want)
				}
				if want {
					right++
				}
			}
			for _, tour := range pool {
				longer = append(longer, slices.Concat(tours, [][]int{tour}))
			}
		}
		lists = longer
	}
	if right < 20 {
		t.Errorf("only %d of the forests were right", right)
	}
}

// nearForests are but a little other than f: some of them are right, most are not.
func nearForests(drawn *drawnNumber, f impl.Forest) []impl.Forest {
	near := []impl.Forest{forestOf(f.N-1, f.Tours...), forestOf(f.N+1, f.Tours...), forestOf(f.N, append(slices.Clone(f.Tours), []int{f.N})...),
		forestOf(f.N, append(slices.Clone(f.Tours), nil)...), forestOf(f.N+1, append(slices.Clone(f.Tours), []int{f.N})...)}
	for place, tour := range f.Tours {
		with, at := drawn.below(len(f.Tours)), drawn.below(len(tour))
		less, more, swapped, rerooted, turned := copied(f), copied(f), copied(f), copied(f), copied(f)
		less.Tours = slices.Delete(less.Tours, place, place+1)
		more.Tours = slices.Insert(more.Tours, drawn.below(len(f.Tours)+1), slices.Clone(tour))
		swapped.Tours[place], swapped.Tours[with] = swapped.Tours[with], swapped.Tours[place]
		rerooted.Tours[place] = tourOfLetters(rerootedByWords(lettersOf(tour), letterOf(tour[at])))
		turned.Tours[place][at] = drawn.below(impl.MaxVerts+2) - 1
		longer := copied(f)
		longer.Tours[place] = grown(tour, at, drawn.below(impl.MaxVerts))
		near = append(near, less, more, swapped, rerooted, turned, longer)
	}
	return near
}

func TestForestOkOfForests(t *testing.T) {
	drawn, right, wrong := drawnNumber(17), 0, 0
	for _, f := range rightForests() {
		if !impl.ForestOk(f) || !forestOkByWords(f) {
			t.Fatalf("ForestOk(%v) is false", f)
		}
		for _, near := range nearForests(&drawn, f) {
			want := forestOkByWords(near)
			if impl.ForestOk(near) != want {
				t.Fatalf("ForestOk(%v) is %v", near, !want)
			}
			if want {
				right++
			} else {
				wrong++
			}
		}
	}
	if right < 1000 || wrong < 1000 {
		t.Errorf("only %d near forests were right, and %d wrong", right, wrong)
	}
}

func TestTreeOfAndSizeOfByHand(t *testing.T) {
	f := forestOf(7, []int{6, 0, 2, 0, 6}, []int{1}, []int{5, 3, 5}, []int{4})
	places, sizes := []int{0, 1, 0, 2, 3, 2, 0}, []int{3, 1, 3, 2, 1, 2, 3}
	for v := range f.N {
		if place, size := impl.TreeOf(f, v), impl.SizeOf(f, v); place != places[v] || size != sizes[v] {
			t.Errorf("TreeOf(%v, %d) = %d, SizeOf %d; want %d, %d", f, v, place, size, places[v], sizes[v])
		}
	}
	whole := forestOf(impl.MaxVerts, longTour())
	for v := range impl.MaxVerts {
		if place, size := impl.TreeOf(whole, v), impl.SizeOf(whole, v); place != 0 || size != impl.MaxVerts {
			t.Errorf("TreeOf of %d in one tree of all = %d, SizeOf %d", v, place, size)
		}
	}
	for _, v := range []int{math.MinInt, -7, -1, 7, 8, 11, impl.MaxVerts, math.MaxInt} {
		if place, size := impl.TreeOf(f, v), impl.SizeOf(f, v); place != -1 || size != 0 {
			t.Errorf("TreeOf(%v, %d) = %d, SizeOf %d; want -1, 0", f, v, place, size)
		}
	}
}

func TestTreeOfAndSizeOfForests(t *testing.T) {
	for _, f := range rightForests() {
		for v := -2; v <= impl.MaxVerts+1; v++ {
			place, size := placeByWords(f, v), 0
			if place >= 0 {
				size = len(vertsByWords(f.Tours[place]))
			}
			if got := impl.TreeOf(f, v); got != place {
				t.Fatalf("TreeOf(%v, %d) = %d; want %d", f, v, got, place)
			}
			if got := impl.SizeOf(f, v); got != size {
				t.Fatalf("SizeOf(%v, %d) = %d; want %d", f, v, got, size)
			}
		}
	}
}

func TestEdgesOf(t *testing.T) {
	for _, c := range []struct {
		f    impl.Forest
		want []impl.Edge
	}{
		{forestOf(1, []int{0}), nil},
		{forestOf(3, []int{0}, []int{1}, []int{2}), nil},
		{forestOf(2, []int{1, 0, 1}), []impl.Edge{edge(0, 1)}},
		{forestOf(4, []int{3, 0, 3}, []int{2, 1, 2}), []impl.Edge{edge(0, 3), edge(1, 2)}},
		{forestOf(6, []int{5, 2, 5, 0, 5}, []int{4, 1, 3, 1, 4}), []impl.Edge{edge(0, 5), edge(1, 3), edge(1, 4), edge(2, 5)}},
		{forestOf(5, []int{4, 0, 4, 2, 4, 1, 4}, []int{3}), []impl.Edge{edge(0, 4), edge(1, 4), edge(2, 4)}},
		{forestOf(5, []int{0, 4, 0, 3, 0, 1, 0, 2, 0}), []impl.Edge{edge(0, 1), edge(0, 2), edge(0, 3), edge(0, 4)}},
		{forestOf(impl.MaxVerts, longTour()), edgesByWords(longTour())},
	} {
		if got := impl.EdgesOf(c.f); !slices.Equal(got, c.want) {
			t.Errorf("EdgesOf(%v) = %v; want %v", c.f, got, c.want)
		}
	}
	for _, f := range rightForests() {
		want := edgesOfByWords(f)
		if got := impl.EdgesOf(f); !slices.Equal(got, want) || len(got) != f.N-len(f.Tours) {
			t.Fatalf("EdgesOf(%v) = %v; want %v", f, got, want)
		}
	}
}

func wantLinked(t *testing.T, f impl.Forest, e impl.Edge, want impl.Forest) {
	t.Helper()
	if got, ok := impl.Link(f, e); !ok || !sameForest(got, want) || !impl.ForestOk(got) {
		t.Fatalf("Link(%v, %v) = %v, %v; want %v, true", f, e, got, ok, want)
	}
}

func wantNotLinked(t *testing.T, f impl.Forest, e impl.Edge, why string) {
	t.Helper()
	if got, ok := impl.Link(f, e); ok || got.N != 0 || len(got.Tours) != 0 {
		t.Fatalf("Link(%v, %v) (%s) = %v, %v; want nothing, false", f, e, why, got, ok)
	}
}

func wantCut(t *testing.T, f impl.Forest, e impl.Edge, want impl.Forest) {
	t.Helper()
	if got, ok := impl.Cut(f, e); !ok || !sameForest(got, want) || !impl.ForestOk(got) {
		t.Fatalf("Cut(%v, %v) = %v, %v; want %v, true", f, e, got, ok, want)
	}
}

func wantNotCut(t *testing.T, f impl.Forest, e impl.Edge, why string) {
	t.Helper()
	if got, ok := impl.Cut(f, e); ok || got.N != 0 || len(got.Tours) != 0 {
		t.Fatalf("Cut(%v, %v) (%s) = %v, %v; want nothing, false", f, e, why, got, ok)
	}
}

// forestCase is what becomes of a forest by an edge.
type forestCase struct {
	what string
	f    impl.Forest
	e    impl.Edge
	want impl.Forest
}

func TestLinkByHand(t *testing.T) {
	four := forestOf(4, []int{0}, []int{1}, []int{2}, []int{3})
	for _, c := range []forestCase{
		{"both alone", forestOf(2, []int{0}, []int{1}), edge(0, 1), forestOf(2, []int{0, 1, 0})},
		{"both alone, one between", four, edge(1, 3), forestOf(4, []int{0}, []int{1, 3, 1}, []int{2})},
		{"both alone, at the end", four, edge(2, 3), forestOf(4, []int{0}, []int{1}, []int{2, 3, 2})},
		{"the first and the last", four, edge(0, 3), forestOf(4, []int{0, 3, 0}, []int{1}, []int{2})},
		{"A in the middle of a tree", forestOf(4, []int{0, 1, 2, 1, 0}, []int{3}), edge(1, 3), forestOf(4, []int{0, 1, 2, 1, 3, 1, 0})},
		{"A the root of a tree", forestOf(4, []int{0, 1, 2, 1, 0}, []int{3}), edge(0, 3), forestOf(4, []int{0, 1, 2, 1, 0, 3, 0})},
		{"A a leaf", forestOf(4, []int{1, 0, 1, 2, 1}, []int{3}), edge(0, 3), forestOf(4, []int{1, 0, 3, 0, 1, 2, 1})},
		{"B in the middle of a tree", forestOf(4, []int{0}, []int{1, 2, 3, 2, 1}), edge(0, 2), forestOf(4, []int{0, 2, 3, 2, 1, 2, 0})},
		{"both in the middle", forestOf(6, []int{0, 1, 2, 1, 0}, []int{3, 4, 5, 4, 3}), edge(1, 4), forestOf(6, []int{0, 1, 2, 1, 4, 5, 4, 3, 4, 1, 0})},
		{"neither is a root", forestOf(5, []int{2, 0, 2}, []int{1}, []int{4, 3, 4}), edge(0, 3), forestOf(5, []int{2, 0, 3, 4, 3, 0, 2}, []int{1})},
		{"A's tree ahead", forestOf(6, []int{0}, []int{4, 1, 4}, []int{2}, []int{3, 5, 3}), edge(1, 5), forestOf(6, []int{0}, []int{4, 1, 5, 3, 5, 1, 4}, []int{2})},
		{"A's tree behind", forestOf(4, []int{0, 3, 0}, []int{1}, []int{2}), edge(2, 3), forestOf(4, []int{2, 3, 0, 3, 2}, []int{1})},
		{"A's tree behind, later", forestOf(6, []int{0}, []int{1, 5, 1}, []int{2}, []int{3, 4, 3}), edge(4, 5), forestOf(6, []int{0}, []int{3, 4, 5, 1, 5, 4, 3}, []int{2})},
		{"the others stay behind", forestOf(5, []int{0}, []int{1}, []int{4, 2, 4}, []int{3}), edge(0, 1), forestOf(5, []int{0, 1, 0}, []int{4, 2, 4}, []int{3})},
	} {
		t.Run(c.what, func(t *testing.T) { wantLinked(t, c.f, c.e, c.want) })
	}
}

func TestLinkOfTreesThatAreOneAlready(t *testing.T) {
	f := forestOf(6, []int{3, 0, 3, 1, 5, 1, 3}, []int{4, 2, 4})
	for _, e := range []impl.Edge{edge(0, 1), edge(0, 3), edge(0, 5), edge(1, 3), edge(1, 5), edge(2, 4), edge(3, 5)} {
		wantNotLinked(t, f, e, "one tree has both")
	}
	for _, e := range allEdges(impl.MaxVerts) {
		wantNotLinked(t, forestOf(impl.MaxVerts, longTour()), e, "one tree has all")
	}
	first, _ := impl.ForestNew(3)
	linked, _ := impl.Link(first, edge(0, 2))
	wantNotLinked(t, linked, edge(0, 2), "linked already")
}

func TestCutByHand(t *testing.T) {
	tree := []int{0, 1, 2, 1, 3, 1, 0, 4, 5, 4, 0}
	for _, c := range []forestCase{
		{"two vertices", forestOf(2, []int{0, 1, 0}), edge(0, 1), forestOf(2, []int{0}, []int{1})},
		{"two, the greater first", forestOf(2, []int{1, 0, 1}), edge(0, 1), forestOf(2, []int{0}, []int{1})},
		{"at the root", forestOf(6, tree), edge(0, 1), forestOf(6, []int{0, 4, 5, 4, 0}, []int{1, 2, 1, 3, 1})},
		{"at the root, its last", forestOf(6, tree), edge(0, 4), forestOf(6, []int{0, 1, 2, 1, 3, 1, 0}, []int{4, 5, 4})},
		{"at a leaf", forestOf(6, tree), edge(1, 2), forestOf(6, []int{0, 1, 3, 1, 0, 4, 5, 4, 0}, []int{2})},
		{"at the last leaf", forestOf(6, tree), edge(4, 5), forestOf(6, []int{0, 1, 2, 1, 3, 1, 0, 4, 0}, []int{5})},
		{"in the middle", forestOf(4, []int{0, 1, 2, 3, 2, 1, 0}), edge(1, 2), forestOf(4, []int{0, 1, 0}, []int{2, 3, 2})},
		{"B is above A", forestOf(4, []int{3, 2, 1, 0, 1, 2, 3}), edge(1, 2), forestOf(4, []int{1, 0, 1}, []int{3, 2, 3})},
		{"the root goes behind", forestOf(3, []int{2, 0, 2}, []int{1}), edge(0, 2), forestOf(3, []int{0}, []int{1}, []int{2})},
		{"the other goes between", forestOf(5, []int{0, 3, 0}, []int{1}, []int{2}, []int{4}), edge(0, 3), forestOf(5, []int{0}, []int{1}, []int{2}, []int{3}, []int{4})},
		{"the root goes between", forestOf(6, []int{3, 0, 3, 5, 3}, []int{1}, []int{2}, []int{4}), edge(0, 3), forestOf(6, []int{0}, []int{1}, []int{2}, []int{3, 5, 3}, []int{4})},
		{"the other goes to the end", forestOf(4, []int{0}, []int{1, 3, 1}, []int{2}), edge(1, 3), forestOf(4, []int{0}, []int{1}, []int{2}, []int{3})},
		{"by the least, not the first", forestOf(6, []int{0}, []int{5, 2, 5, 1, 4, 1, 5}, []int{3}), edge(1, 5), forestOf(6, []int{0}, []int{1, 4, 1}, []int{5, 2, 5}, []int{3})},
		{"of a later tree", forestOf(5, []int{4, 0, 4}, []int{1, 2, 1, 3, 1}), edge(1, 3), forestOf(5, []int{4, 0, 4}, []int{1, 2, 1}, []int{3})},
	} {
		t.Run(c.what, func(t *testing.T) { wantCut(t, c.f, c.e, c.want) })
	}
	for _, e := range []impl.Edge{edge(0, 2), edge(0, 3), edge(0, 5), edge(1, 4), edge(1, 5), edge(2, 3), edge(2, 4), edge(3, 5)} {
		wantNotCut(t, forestOf(6, tree), e, "one tree has both, but no edge of them")
	}
	for _, e := range []impl.Edge{edge(0, 1), edge(0, 2), edge(1, 3), edge(2, 3)} {
		wantNotCut(t, forestOf(4, []int{3, 0, 3}, []int{2, 1, 2}), e, "they are in two trees")
	}
}

// wrongEdges are no edges of n vertices.
func wrongEdges(n int) []impl.Edge {
	wrong := []impl.Edge{edge(-1, 0), edge(-1, n-1), edge(0, n), edge(n-1, n), edge(n, n+1), edge(-1, n), edge(-2, -1), edge(-1, -1),
		edge(0, impl.MaxVerts), edge(n, n), edge(math.MinInt, 0), edge(0, math.MaxInt), edge(math.MinInt, math.MaxInt), edge(math.MaxInt, 0)}
	for _, e := range allEdges(n) {
		wrong = append(wrong, turned(e))
	}
	for v := range n {
		wrong = append(wrong, edge(v, v))
	}
	return wrong
}

func TestLinkAndCutOfWrongEdges(t *testing.T) {
	for _, f := range rightForests() {
		for _, e := range wrongEdges(f.N) {
			wantNotLinked(t, f, e, "no right edge")
			wantNotCut(t, f, e, "no right edge")
		}
	}
}

func TestForestsThatAreNotRight(t *testing.T) {
	edges := append(allEdges(impl.MaxVerts), wrongEdges(4)...)
	for what, f := range wrongForests() {
		for _, e := range edges {
			wantNotLinked(t, f, e, what)
			wantNotCut(t, f, e, what)
		}
		for v := -2; v <= impl.MaxVerts+1; v++ {
			if place, size := impl.TreeOf(f, v), impl.SizeOf(f, v); place != -1 || size != 0 {
				t.Errorf("%s: TreeOf of %d = %d, SizeOf %d; want -1, 0", what, v, place, size)
			}
		}
		if got := impl.EdgesOf(f); len(got) != 0 {
			t.Errorf("%s: EdgesOf = %v; want nothing", what, got)
		}
	}
}

// Each edge that there may be links two trees, or cuts one, or does neither, as the document's words have it.
func TestLinkAndCutOfForests(t *testing.T) {
	for _, f := range rightForests() {
		edges := edgesOfByWords(f)
		for _, e := range allEdges(f.N) {
			if placeByWords(f, e.A) == placeByWords(f, e.B) {
				wantNotLinked(t, f, e, "one tree has both")
			} else {
				wantLinked(t, f, e, linkedByWords(f, e))
			}
			if slices.Contains(edges, e) {
				wantCut(t, f, e, cutByWords(f, e))
			} else {
				wantNotCut(t, f, e, "no Tour goes along it")
			}
		}
	}
}

// wantSameTrees asks for the vertices and the edges of each tree, not for its root.
func wantSameTrees(t *testing.T, what string, got, want impl.Forest) {
	t.Helper()
	if !impl.ForestOk(got) || got.N != want.N || len(got.Tours) != len(want.Tours) || !slices.Equal(impl.EdgesOf(got), impl.EdgesOf(want)) {
		t.Fatalf("%s: %v has not the trees of %v", what, got, want)
	}
	for place, tour := range want.Tours {
		wantSameTree(t, what, got.Tours[place], tour)
	}
}

func TestLinkedAndCutAgain(t *testing.T) {
	links, cuts := 0, 0
	for _, f := range rightForests() {
		for _, e := range allEdges(f.N) {
			if linked, ok := impl.Link(f, e); ok {
				links++
				back, ok := impl.Cut(linked, e)
				if !ok {
					t.Fatalf("Cut(%v, %v) is false", linked, e)
				}
				wantSameTrees(t, "linked, and cut", back, f)
			}
			if cut, ok := impl.Cut(f, e); ok {
				cuts++
				back, ok := impl.Link(cut, e)
				if !ok {
					t.Fatalf("Link(%v, %v) is false", cut, e)
				}
				wantSameTrees(t, "cut, and linked", back, f)
			}
		}
	}
	if links < 5000 || cuts < 5000 {
		t.Errorf("only %d forests were linked, and %d cut", links, cuts)
	}
}

// A forest that lives for long has, whatever is done to it, just the edges that were linked and not cut.
func TestForestsForLong(t *testing.T) {
	drawn, links, cuts := drawnNumber(27), 0, 0
	f, _ := impl.ForestNew(impl.MaxVerts)
	g := graphOf(impl.MaxVerts)
	for range 6000 {
		e := allEdges(impl.MaxVerts)[drawn.below(impl.MaxEdges)]
		apart, there := !impl.Together(g, e.A, e.B), impl.HasEdge(g, e)
		linked, hasLinked := impl.Link(f, e)
		cut, hasCut := impl.Cut(f, e)
		if hasLinked != apart || hasCut != there {
			t.Fatalf("Link(%v, %v) is %v, Cut %v", f, e, hasLinked, hasCut)
		}
		switch {
		case apart:
			f, links = linked, links+1
			g, _ = impl.AddEdge(g, e)
		case there && drawn.below(2) == 0:
			f, cuts = cut, cuts+1
			g, _ = impl.TakeEdge(g, e)
		}
		if !impl.ForestOk(f) || !slices.Equal(impl.EdgesOf(f), g.Edges) {
			t.Fatalf("the forest %v has not the edges %v", f, g.Edges)
		}
		for v, label := range impl.Labels(g) {
			place := impl.TreeOf(f, v)
			if place < 0 || impl.VertsOf(f.Tours[place])[0] != label || impl.SizeOf(f, v) != len(impl.VertsOf(f.Tours[place])) {
				t.Fatalf("TreeOf(%v, %d) = %d; its least one is %d", f, v, place, label)
			}
		}
	}
	if links < 300 || cuts < 300 {
		t.Errorf("only %d times was it linked, and %d times cut", links, cuts)
	}
}

const forestFill = 77

// forestWithin has fill in the spare room behind each list of it.
func forestWithin(f impl.Forest) impl.Forest {
	tours := [][]int{}
	for _, tour := range f.Tours {
		tours = append(tours, within(tour, forestFill))
	}
	return impl.Forest{N: f.N, Tours: within(tours, []int{forestFill})}
}

// wantUntouched holds a forest of forestWithin to what it was made of, with its spare room.
func wantUntouched(t *testing.T, f impl.Forest, was impl.Forest) {
	t.Helper()
	whole := func(f impl.Forest) [][]int { return f.Tours[:cap(f.Tours)] }
	same := func(a, b []int) bool { return slices.Equal(a[:cap(a)], b[:cap(b)]) }
	if !slices.EqualFunc(whole(f), whole(forestWithin(was)), same) {
		t.Fatalf("the lists of the forest %v, or the room behind them, are now %v", was, whole(f))
	}
}

func TestForestsLeaveArgumentsAlone(t *testing.T) {
	forests := append(drawnForests()[:70], forestOf(1, []int{0}), forestOf(impl.MaxVerts, longTour()))
	for _, tours := range forestsOn([]int{0, 1, 2, 3}) {
		forests = append(forests, forestOf(4, tours...))
	}
	for _, wrong := range wrongForests() {
		if !slices.ContainsFunc(wrong.Tours, func(tour []int) bool { return len(tour) > longestTour+2 }) {
			forests = append(forests, wrong)
		}
	}
	for _, was := range forests {
		f := forestWithin(was)
		tours, lists, edges := slices.Clone(f.Tours), [][][]int{f.Tours}, [][]impl.Edge{}
		for i, e := range append(allEdges(min(max(was.N, 0), impl.MaxVerts)), wrongEdges(2)...) {
			linked, _ := impl.Link(f, e)
			cut, _ := impl.Cut(f, e)
			impl.TreeOf(f, e.A)
			impl.SizeOf(f, e.B)
			wantApart(t, "the forest and what Link and Cut answer", slices.Concat(f.Tours, linked.Tours, cut.Tours)...)
			lists = append(lists, linked.Tours, cut.Tours)
			if i < 6 { // of several calls, too, nothing is shared
				tours = slices.Concat(tours, linked.Tours, cut.Tours)
			}
		}
		impl.ForestOk(f)
		edges = append(edges, impl.EdgesOf(f), impl.EdgesOf(f))
		wantApart(t, "tours of forests that were handed in and answered", tours...)
		wantApart(t, "forests that were handed in and answered", lists...)
		wantApart(t, "what EdgesOf answers", edges...)
		wantUntouched(t, f, was)
	}
	one, _ := impl.ForestNew(5)
	two, _ := impl.ForestNew(5)
	wantApart(t, "tours of new forests", slices.Concat(one.Tours, two.Tours)...)
	wantApart(t, "new forests", one.Tours, two.Tours)
}

// What is answered is the caller's: writing into it changes no later answer.
func TestForestsAreKeptNowhere(t *testing.T) {
	was := forestOf(5, []int{0, 3, 0}, []int{1}, []int{4, 2, 4})
	f := copied(was)
	for range 3 {
		first, _ := impl.ForestNew(3)
		linked, _ := impl.Link(f, edge(1, 3))
		cut, _ := impl.Cut(f, edge(2, 4))
		edges := impl.EdgesOf(f)
		if !sameForest(first, forestOf(3, []int{0}, []int{1}, []int{2})) || !slices.Equal(edges, []impl.Edge{edge(0, 3), edge(2, 4)}) {
			t.Fatalf("ForestNew(3) = %v, EdgesOf(%v) = %v", first, f, edges)
		}
		if !sameForest(linked, forestOf(5, []int{1, 3, 0, 3, 1}, []int{4, 2, 4})) || !sameForest(cut, forestOf(5, []int{0, 3, 0}, []int{1}, []int{2}, []int{4})) {
			t.Fatalf("Link(%v) = %v, Cut = %v", f, linked, cut)
		}
		for _, answer := range []impl.Forest{first, linked, cut} {
			for place, tour := range answer.Tours {
				_ = append(tour, 6, 6)
				tour[0] = 6
				answer.Tours[place] = nil
			}
			_ = append(answer.Tours, []int{6})
		}
		edges[0] = edge(6, 6)
		if !sameForest(f, was) {
			t.Fatalf("the forest is now %v", f)
		}
	}
}
