package tests

import (
	"math"
	"slices"
	"strings"
	"testing"

	"loop.example/g00130/impl"
)

const longestTour = 2*impl.MaxVerts - 1

// lettersOf is a tour as a text, a letter for each vertex: texts share nothing that could be written into.
func lettersOf(tour []int) string {
	out := []byte{}
	for _, v := range tour {
		out = append(out, letterOf(v)...)
	}
	return string(out)
}

func letterOf(v int) string { return string([]byte{byte('a' + v)}) }

func tourOfLetters(text string) []int {
	tour := []int{}
	for i := range len(text) {
		tour = append(tour, int(text[i]-'a'))
	}
	return tour
}

func rerootedByWords(t string, v string) string {
	at := strings.Index(t, v)
	return t[at:len(t)-1] + t[:at] + v
}

func joinedByWords(a string, u string, b string, v string) string {
	at := strings.LastIndex(a, u)
	return a[:at+1] + rerootedByWords(b, v) + a[at:]
}

func splitByWords(t string, u string, v string) (string, string) {
	if strings.Index(t, u+v) > strings.Index(t, v+u) {
		u, v = v, u
	}
	ahead, rest, _ := strings.Cut(t, u+v)
	between, behind, _ := strings.Cut(v+rest, v+u)
	return ahead + u + behind, between + v
}

// vertsByWords looks for each vertex that there may be.
func vertsByWords(t []int) []int {
	verts := []int{}
	for v := range impl.MaxVerts {
		if slices.Contains(t, v) {
			verts = append(verts, v)
		}
	}
	return verts
}

// stepsByWords tells of each edge how often it is gone along; a step from a vertex to itself is none of these.
func stepsByWords(t []int) map[impl.Edge]int {
	steps := map[impl.Edge]int{}
	for i := 1; i < len(t); i++ {
		if t[i-1] != t[i] {
			steps[edge(min(t[i-1], t[i]), max(t[i-1], t[i]))]++
		}
	}
	return steps
}

func edgesByWords(t []int) []impl.Edge {
	edges, steps := []impl.Edge{}, stepsByWords(t)
	for _, e := range allEdges(impl.MaxVerts) {
		if steps[e] > 0 {
			edges = append(edges, e)
		}
	}
	return edges
}

// tourOkByWords needs no path: a walk that ends where it began, along one edge less than it has vertices
// and along each of them twice, goes around a tree.
func tourOkByWords(t []int) bool {
	if len(t) < 1 || len(t) > longestTour || t[0] != t[len(t)-1] {
		return false
	}
	for i, v := range t {
		if v < 0 || v >= impl.MaxVerts || i > 0 && v == t[i-1] {
			return false
		}
	}
	steps := stepsByWords(t)
	for _, times := range steps {
		if times != 2 {
			return false
		}
	}
	return len(steps) == len(vertsByWords(t))-1
}

// hasRingByWords: where more edges stand than it takes to hang that much together, some of them close a ring.
func hasRingByWords(g impl.Graph) bool {
	parts := 0
	for v, label := range labelsByWords(g) {
		if v == label {
			parts++
		}
	}
	return len(g.Edges) > g.N-parts
}

// tourByWords goes on along the edge to the least vertex that it did not go to from there,
// and up only when there is no other.
func tourByWords(g impl.Graph, root int) []int {
	tour, gone, above := []int{root}, map[impl.Edge]int{}, map[int]int{root: -1}
	for at := root; ; {
		next := above[at]
		for _, other := range aroundByWords(g, at) {
			if other != above[at] && gone[edge(at, other)] == 0 {
				next = other
				above[other] = at
				break
			}
		}
		if next < 0 {
			return tour
		}
		gone[edge(at, next)], at = 1, next
		tour = append(tour, at)
	}
}

// grown is the tour with a new leaf below the vertex at this place.
func grown(tour []int, place int, leaf int) []int {
	return slices.Concat(tour[:place+1], []int{leaf}, tour[place:])
}

// toursOn has each tour that has just these vertices, also those that do not go to the lesser vertex first.
func toursOn(verts []int) [][]int {
	if len(verts) == 1 {
		return [][]int{{verts[0]}}
	}
	seen, tours := map[string]int{}, [][]int{}
	for i, leaf := range verts {
		for _, less := range toursOn(slices.Concat(verts[:i], verts[i+1:])) {
			for place := range less {
				tour := grown(less, place, leaf)
				if seen[lettersOf(tour)] == 0 {
					seen[lettersOf(tour)], tours = 1, append(tours, tour)
				}
			}
		}
	}
	return tours
}

// pickedVerts are those of the first n whose bits are set.
func pickedVerts(n int, bits int) []int {
	verts := []int{}
	for v := range n {
		if bits>>v&1 == 1 {
			verts = append(verts, v)
		}
	}
	return verts
}

// everySmallTour has each tour of some of the first four vertices, and each of the first five.
func everySmallTour() [][]int {
	tours := toursOn([]int{0, 1, 2, 3, 4})
	for bits := 1; bits < 1<<4; bits++ {
		tours = append(tours, toursOn(pickedVerts(4, bits))...)
	}
	return tours
}

func (n *drawnNumber) order(verts int) []int {
	order := []int{}
	for v := range verts {
		order = slices.Insert(order, n.below(len(order)+1), v)
	}
	return order
}

func (n *drawnNumber) tour(verts []int) []int {
	tour := verts[:1]
	for _, v := range verts[1:] {
		tour = grown(tour, n.below(len(tour)), v)
	}
	return tour
}

func drawnTours() [][]int {
	drawn, tours := drawnNumber(6), [][]int{}
	for i := range 300 {
		tours = append(tours, drawn.tour(drawn.order(impl.MaxVerts)[:1+i%impl.MaxVerts]))
	}
	return tours
}

// longTour goes along a chain of all vertices, and has as many numbers as a tour may have.
func longTour() []int {
	tour := []int{0}
	for v := 1; v < impl.MaxVerts; v++ {
		tour = grown(tour, v-1, v)
	}
	return tour
}

// wrongTours break one rule each; in all of them but the empty one the vertex 0 stands.
func wrongTours() map[string][]int {
	return map[string][]int{
		"no numbers":                   {},
		"two, unlike":                  {0, 1},
		"two, alike":                   {0, 0},
		"three, unlike":                {0, 1, 2},
		"three alike":                  {0, 0, 0},
		"three, the last twice":        {0, 1, 1},
		"three, the first twice":       {1, 0, 0},
		"a vertex twice in a row":      {0, 1, 1, 0},
		"the root twice in a row":      {0, 1, 0, 0},
		"the root twice ahead":         {0, 0, 1, 0},
		"twice in a row, later":        {0, 1, 0, 2, 2, 0},
		"the last is not the first":    {0, 1, 0, 2},
		"not up to the root":           {0, 1, 2, 1},
		"a ring":                       {0, 1, 2, 0},
		"twice the same way":           {0, 1, 2, 0, 1, 2, 0},
		"a ring, there and back":       {0, 1, 2, 0, 2, 1, 0},
		"a ring, below, twice":         {0, 1, 2, 3, 1, 3, 2, 1, 0},
		"an edge once, one thrice":     {0, 1, 0, 2, 1, 0},
		"a closed walk, one thrice":    {0, 1, 0, 1, 2, 0},
		"an edge four times":           {0, 1, 0, 1, 0},
		"a lower edge four times":      {0, 1, 2, 1, 2, 1, 0},
		"an edge four times, apart":    {0, 1, 0, 2, 0, 1, 0},
		"an edge three times":          {0, 1, 0, 1},
		"the same way, and a tree":     {0, 1, 2, 0, 1, 2, 0, 3, 0},
		"up to another than it was at": {0, 1, 2, 3, 1, 0},
		"a number below 0":             {0, -1, 0},
		"a root below 0":               {-1, 0, -1},
		"a number of MaxVerts":         {0, impl.MaxVerts, 0},
		"a root of MaxVerts":           {impl.MaxVerts, 0, impl.MaxVerts},
		"a number far below":           {0, math.MinInt, 0},
		"a number far above":           {0, math.MaxInt, 0},
		"two more than may be":         grown(longTour(), 5, 0),
		"two more, of no vertex":       grown(longTour(), 11, impl.MaxVerts),
		"one too many":                 append(longTour(), 0),
		"one too few":                  longTour()[:longestTour-1],
		"without its first":            longTour()[1:],
		"far too many":                 slices.Repeat([]int{0, 1}, 5000),
	}
}

func TestTourOkByHand(t *testing.T) {
	for what, tour := range map[string][]int{
		"one vertex":        {0},
		"the last vertex":   {impl.MaxVerts - 1},
		"two vertices":      {0, 1, 0},
		"the greater first": {11, 10, 11},
		"a chain":           {3, 1, 2, 1, 3},
		"a chain's middle":  {1, 3, 1, 2, 1},
		"a star":            {5, 9, 5, 0, 5, 7, 5, 1, 5},
		"both":              {0, 1, 0, 2, 3, 2, 4, 2, 0, 5, 0},
		"as long as may be": longTour(),
	} {
		if !impl.TourOk(tour) {
			t.Errorf("%s: TourOk(%v) is false", what, tour)
		}
	}
	for what, tour := range wrongTours() {
		if impl.TourOk(tour) {
			t.Errorf("%s: TourOk(%v) is true", what, tour)
		}
	}
	for _, v := range []int{math.MinInt, -impl.MaxVerts, -1, impl.MaxVerts, impl.MaxVerts + 1, 100, math.MaxInt} {
		if impl.TourOk([]int{v}) {
			t.Errorf("TourOk of %d alone is true", v)
		}
	}
	for v := range impl.MaxVerts {
		if !impl.TourOk([]int{v}) {
			t.Errorf("TourOk of %d alone is false", v)
		}
	}
	if impl.TourOk(nil) {
		t.Error("TourOk of nil is true")
	}
}

func TestTourOkOfEveryShortList(t *testing.T) {
	lists := [][]int{{}}
	for size := 0; size <= 6; size++ {
		longer := [][]int{}
		for _, list := range lists {
			if want := tourOkByWords(list); impl.TourOk(list) != want {
				t.Fatalf("TourOk(%v) is %v", list, !want)
			}
			for v := -1; v <= 4; v++ {
				longer = append(longer, slices.Concat(list, []int{v}))
			}
		}
		lists = longer
	}
	for _, list := range lists { // of seven numbers
		for _, odd := range [][]int{list, slices.Concat(list, []int{list[0]}), slices.Concat(list, []int{3, list[0]})} {
			if want := tourOkByWords(odd); impl.TourOk(odd) != want {
				t.Fatalf("TourOk(%v) is %v", odd, !want)
			}
		}
	}
}

// Each tour is right, and each that is but a little another one is so by the document's words alone.
func TestTourOkOfTours(t *testing.T) {
	drawn := drawnNumber(16)
	for _, tour := range append(everySmallTour(), drawnTours()...) {
		if !impl.TourOk(tour) || !tourOkByWords(tour) {
			t.Fatalf("TourOk(%v) is false", tour)
		}
		for place := range tour {
			other := slices.Clone(tour)
			other[place] = drawn.below(impl.MaxVerts+2) - 1
			swapped, with := slices.Clone(tour), drawn.below(len(tour))
			swapped[place], swapped[with] = swapped[with], swapped[place]
			for _, near := range [][]int{other, swapped, slices.Delete(slices.Clone(tour), place, place+1),
				slices.Insert(slices.Clone(tour), place, tour[place]), slices.Insert(slices.Clone(tour), place, drawn.below(impl.MaxVerts)),
				grown(tour, place, drawn.below(impl.MaxVerts+1)), tour[:place], tour[place:]} {
				if want := tourOkByWords(near); impl.TourOk(near) != want {
					t.Fatalf("TourOk(%v) is %v", near, !want)
				}
			}
		}
	}
}

func wantTour(t *testing.T, g impl.Graph, root int, want []int) {
	t.Helper()
	if got, ok := impl.TourOf(g.N, g.Edges, root); !ok || !slices.Equal(got, want) {
		t.Fatalf("TourOf(%d, %v, %d) = %v, %v; want %v, true", g.N, g.Edges, root, got, ok, want)
	}
}

func wantNoTour(t *testing.T, g impl.Graph, root int, why string) {
	t.Helper()
	if got, ok := impl.TourOf(g.N, g.Edges, root); ok || len(got) != 0 {
		t.Fatalf("TourOf(%d, %v, %d) (%s) = %v, %v; want nothing, false", g.N, g.Edges, root, why, got, ok)
	}
}

func TestTourOfByHand(t *testing.T) {
	chain := graphOf(5, edge(0, 3), edge(1, 4), edge(2, 3), edge(2, 4)) // 0 3 2 4 1
	star := graphOf(5, edge(0, 2), edge(1, 2), edge(2, 3), edge(2, 4))
	both := graphOf(7, edge(0, 4), edge(1, 4), edge(1, 6), edge(2, 5), edge(4, 5))
	for _, c := range []struct {
		g    impl.Graph
		root int
		want []int
	}{
		{graphOf(1), 0, []int{0}},
		{graphOf(impl.MaxVerts), 0, []int{0}},
		{graphOf(impl.MaxVerts), 11, []int{11}},
		{graphOf(2, edge(0, 1)), 0, []int{0, 1, 0}},
		{graphOf(2, edge(0, 1)), 1, []int{1, 0, 1}},
		{chain, 0, []int{0, 3, 2, 4, 1, 4, 2, 3, 0}},
		{chain, 1, []int{1, 4, 2, 3, 0, 3, 2, 4, 1}},
		{chain, 2, []int{2, 3, 0, 3, 2, 4, 1, 4, 2}},
		{chain, 4, []int{4, 1, 4, 2, 3, 0, 3, 2, 4}},
		{star, 2, []int{2, 0, 2, 1, 2, 3, 2, 4, 2}},
		{star, 0, []int{0, 2, 1, 2, 3, 2, 4, 2, 0}},
		{star, 3, []int{3, 2, 0, 2, 1, 2, 4, 2, 3}},
		{both, 4, []int{4, 0, 4, 1, 6, 1, 4, 5, 2, 5, 4}},
		{both, 6, []int{6, 1, 4, 0, 4, 5, 2, 5, 4, 1, 6}},
		{both, 3, []int{3}}, // the edges do not hang together with it
		{graphOf(6, edge(0, 5), edge(1, 3), edge(3, 4)), 3, []int{3, 1, 3, 4, 3}},
		{graphOf(6, edge(0, 5), edge(1, 3), edge(3, 4)), 5, []int{5, 0, 5}},
		{graphOf(6, edge(2, 5), edge(0, 2), edge(2, 4), edge(1, 2)), 2, []int{2, 0, 2, 1, 2, 4, 2, 5, 2}}, // in any order
		{graphOf(impl.MaxVerts, edgesByWords(longTour())...), 0, longTour()},
	} {
		wantTour(t, c.g, c.root, c.want)
	}
}

func TestTourOfWrongInputs(t *testing.T) {
	chain := []impl.Edge{edge(0, 1), edge(1, 2)}
	for _, n := range []int{math.MinInt, -1, 0, impl.MaxVerts + 1, math.MaxInt} {
		wantNoTour(t, graphOf(n), 0, "n is not right")
		wantNoTour(t, graphOf(n, chain...), 0, "n is not right")
		wantNoTour(t, graphOf(n), n-1, "n is not right")
	}
	for n := 3; n <= impl.MaxVerts; n++ {
		wantTour(t, graphOf(n, chain...), 0, []int{0, 1, 2, 1, 0})
		for _, root := range []int{math.MinInt, -n, -1, n, n + 1, impl.MaxVerts, math.MaxInt} {
			wantNoTour(t, graphOf(n, chain...), root, "no such root")
			wantNoTour(t, graphOf(n), root, "no such root")
		}
	}
	for what, wrong := range map[string]impl.Edge{
		"the other way round":     edge(2, 1),
		"another, turned":         edge(3, 0),
		"of a vertex with itself": edge(4, 4),
		"of the root with itself": edge(0, 0),
		"of none below":           edge(-1, 3),
		"of none above":           edge(3, 6),
		"of none far above":       edge(0, math.MaxInt),
		"of none far below":       edge(math.MinInt, 0),
		"of none at all":          edge(6, 7),
		"one that is there":       edge(0, 1),
		"closing a ring":          edge(0, 2),
	} {
		for at := range len(chain) + 1 {
			for root := range 6 {
				wantNoTour(t, graphOf(6, slices.Insert(slices.Clone(chain), at, wrong)...), root, what)
			}
		}
	}
}

func TestTourOfRings(t *testing.T) {
	ring := []impl.Edge{edge(1, 2), edge(1, 4), edge(2, 3), edge(3, 4)}
	for root := range 7 { // in it, hanging on it, and beside it
		wantNoTour(t, graphOf(7, append(ring, edge(0, 1), edge(5, 6))...), root, "a ring")
		wantNoTour(t, graphOf(7, edge(4, 5), edge(5, 6), edge(4, 6)), root, "a ring of three")
		wantNoTour(t, graphOf(7, edge(0, 1), edge(5, 6), edge(5, 6)), root, "an edge twice")
		wantNoTour(t, graphOf(7, edge(0, 1), edge(5, 6), edge(0, 1)), root, "an edge twice, apart")
	}
	wantNoTour(t, graphOf(impl.MaxVerts, allEdges(impl.MaxVerts)...), 0, "all edges")
	wantNoTour(t, graphOf(impl.MaxVerts, slices.Repeat(ring, 5000)...), 0, "far too many edges")
}

func TestTourOfGraphs(t *testing.T) {
	drawn := drawnNumber(26)
	for _, g := range append(everySmallGraph(), drawnGraphs()...) {
		for root := range g.N {
			if hasRingByWords(g) {
				wantNoTour(t, g, root, "a ring")
				continue
			}
			want := tourByWords(g, root)
			wantTour(t, g, root, want)
			if !tourOkByWords(want) {
				t.Fatalf("%v is no tour", want)
			}
			mixed := impl.Graph{N: g.N}
			for _, at := range drawn.order(len(g.Edges)) {
				mixed.Edges = append(mixed.Edges, g.Edges[at])
			}
			wantTour(t, mixed, root, want)
		}
	}
}

// The tour of a tour's own edges has its vertices and edges, whatever is its root.
func TestTourOfTours(t *testing.T) {
	drawn := drawnNumber(36)
	for _, tour := range append(everySmallTour(), drawnTours()...) {
		g := graphOf(impl.MaxVerts, edgesByWords(tour)...)
		mixed := impl.Graph{N: g.N}
		for _, at := range drawn.order(len(g.Edges)) {
			mixed.Edges = append(mixed.Edges, g.Edges[at])
		}
		for _, root := range vertsByWords(tour) {
			want := tourByWords(g, root)
			wantTour(t, mixed, root, want)
			wantSameTree(t, "TourOf", want, tour)
		}
	}
}

// wantSameTree asks for vertices and edges, not for a root.
func wantSameTree(t *testing.T, what string, got []int, want ...[]int) {
	t.Helper()
	verts, edges := []int{}, []impl.Edge{}
	for _, tour := range want {
		verts, edges = append(verts, vertsByWords(tour)...), append(edges, edgesByWords(tour)...)
	}
	slices.Sort(verts)
	verts = slices.Compact(verts) // the edge that was joined or split names its ends once more
	slices.SortFunc(edges, func(a, b impl.Edge) int { return (a.A-b.A)*100 + a.B - b.B })
	if !impl.TourOk(got) || !tourOkByWords(got) || !slices.Equal(vertsByWords(got), verts) || !slices.Equal(edgesByWords(got), edges) {
		t.Fatalf("%s: %v is no tour with the vertices %v and the edges %v", what, got, verts, edges)
	}
}

func wantRerooted(t *testing.T, tour []int, v int, want []int) {
	t.Helper()
	if got, ok := impl.Reroot(tour, v); !ok || !slices.Equal(got, want) {
		t.Fatalf("Reroot(%v, %d) = %v, %v; want %v, true", tour, v, got, ok, want)
	}
}

func wantNotRerooted(t *testing.T, tour []int, v int, why string) {
	t.Helper()
	if got, ok := impl.Reroot(tour, v); ok || len(got) != 0 {
		t.Fatalf("Reroot(%v, %d) (%s) = %v, %v; want nothing, false", tour, v, why, got, ok)
	}
}

func TestRerootByHand(t *testing.T) {
	tour := []int{0, 1, 0, 2, 3, 2, 4, 2, 0}
	for v, want := range [][]int{
		tour,
		{1, 0, 2, 3, 2, 4, 2, 0, 1},
		{2, 3, 2, 4, 2, 0, 1, 0, 2}, // it stands in three places, of which the first counts
		{3, 2, 4, 2, 0, 1, 0, 2, 3},
		{4, 2, 0, 1, 0, 2, 3, 2, 4},
	} {
		wantRerooted(t, tour, v, want)
	}
	wantRerooted(t, []int{7}, 7, []int{7})
	wantRerooted(t, []int{7, 3, 7}, 7, []int{7, 3, 7})
	wantRerooted(t, []int{7, 3, 7}, 3, []int{3, 7, 3})
	for _, v := range []int{5, 11, 12, -1, math.MinInt, math.MaxInt} {
		wantNotRerooted(t, tour, v, "it is not in it")
		wantNotRerooted(t, []int{0}, v, "it is not in it")
	}
}

// A tour from another vertex on is of the same tree.
func TestRerootOfTours(t *testing.T) {
	for _, tour := range append(everySmallTour(), drawnTours()...) {
		for v := -1; v <= impl.MaxVerts; v++ {
			if !slices.Contains(tour, v) {
				wantNotRerooted(t, tour, v, "it is not in it")
				continue
			}
			want := tourOfLetters(rerootedByWords(lettersOf(tour), letterOf(v)))
			wantRerooted(t, tour, v, want)
			wantSameTree(t, "Reroot", want, tour)
			wantRerooted(t, want, v, want)
			if back, ok := impl.Reroot(want, tour[0]); !ok || back[0] != tour[0] {
				t.Fatalf("Reroot(%v, %d) = %v, %v", want, tour[0], back, ok)
			} else {
				wantSameTree(t, "Reroot, and back", back, tour)
			}
		}
	}
}

func wantJoined(t *testing.T, a []int, u int, b []int, v int, want []int) {
	t.Helper()
	if got, ok := impl.JoinTours(a, u, b, v); !ok || !slices.Equal(got, want) {
		t.Fatalf("JoinTours(%v, %d, %v, %d) = %v, %v; want %v, true", a, u, b, v, got, ok, want)
	}
}

func wantNotJoined(t *testing.T, a []int, u int, b []int, v int, why string) {
	t.Helper()
	if got, ok := impl.JoinTours(a, u, b, v); ok || len(got) != 0 {
		t.Fatalf("JoinTours(%v, %d, %v, %d) (%s) = %v, %v; want nothing, false", a, u, b, v, why, got, ok)
	}
}

func TestJoinToursByHand(t *testing.T) {
	a, b := []int{0, 1, 2, 1, 3, 1, 0}, []int{4, 5, 4, 6, 4}
	for _, c := range []struct {
		what string
		a    []int
		u    int
		b    []int
		v    int
		want []int
	}{
		{"both of one vertex", []int{8}, 8, []int{2}, 2, []int{8, 2, 8}},
		{"b of one vertex", []int{0, 1, 0}, 1, []int{2}, 2, []int{0, 1, 2, 1, 0}},
		{"b of one vertex, at the root", []int{0, 1, 0}, 0, []int{2}, 2, []int{0, 1, 0, 2, 0}},
		{"a of one vertex", []int{7}, 7, b, 4, []int{7, 4, 5, 4, 6, 4, 7}},
		{"a of one vertex, b's leaf", []int{7}, 7, b, 6, []int{7, 6, 4, 5, 4, 6, 7}},
		{"the root of a", a, 0, b, 4, []int{0, 1, 2, 1, 3, 1, 0, 4, 5, 4, 6, 4, 0}},
		{"the last place of three", a, 1, b, 4, []int{0, 1, 2, 1, 3, 1, 4, 5, 4, 6, 4, 1, 0}},
		{"a leaf of a", a, 2, b, 4, []int{0, 1, 2, 4, 5, 4, 6, 4, 2, 1, 3, 1, 0}},
		{"another leaf", a, 3, b, 5, []int{0, 1, 2, 1, 3, 5, 4, 6, 4, 5, 3, 1, 0}},
		{"the root of a, b's leaf", a, 0, b, 6, []int{0, 1, 2, 1, 3, 1, 0, 6, 4, 5, 4, 6, 0}},
		{"in the middle of b", []int{9, 8, 9}, 9, []int{0, 1, 2, 1, 3, 1, 0}, 1, []int{9, 8, 9, 1, 2, 1, 3, 1, 0, 1, 9}},
	} {
		wantJoined(t, c.a, c.u, c.b, c.v, c.want)
	}
	for _, w := range []int{4, 7, 11, 12, -1, math.MinInt, math.MaxInt} {
		wantNotJoined(t, a, w, b, 4, "u is not in a")
	}
	for _, w := range []int{0, 1, 7, 11, 12, -1, math.MinInt, math.MaxInt} {
		wantNotJoined(t, a, 0, b, w, "v is not in b")
	}
	wantNotJoined(t, a, 4, b, 0, "each in the other one")
	wantNotJoined(t, a, 0, a, 1, "the same twice")
	wantNotJoined(t, []int{3}, 3, []int{3}, 3, "the same vertex twice")
	wantNotJoined(t, a, 0, []int{4, 5, 4, 3, 4}, 4, "a leaf in common")
	wantNotJoined(t, a, 2, []int{4, 1, 4}, 4, "a vertex in common")
	wantNotJoined(t, a, 3, []int{0}, 0, "the root in common")
	wantNotJoined(t, longTour(), 11, []int{4}, 4, "no vertex is left")
}

func TestSplitTourByHand(t *testing.T) {
	tour := []int{0, 1, 2, 1, 3, 1, 0, 4, 5, 4, 0}
	for _, c := range []struct {
		what        string
		t           []int
		u, v        int
		root, other []int
	}{
		{"two vertices", []int{6, 2, 6}, 6, 2, []int{6}, []int{2}},
		{"at the root", tour, 0, 1, []int{0, 4, 5, 4, 0}, []int{1, 2, 1, 3, 1}},
		{"at the root, its last", tour, 0, 4, []int{0, 1, 2, 1, 3, 1, 0}, []int{4, 5, 4}},
		{"at a leaf", tour, 1, 2, []int{0, 1, 3, 1, 0, 4, 5, 4, 0}, []int{2}},
		{"at another leaf", tour, 1, 3, []int{0, 1, 2, 1, 0, 4, 5, 4, 0}, []int{3}},
		{"at the last leaf", tour, 4, 5, []int{0, 1, 2, 1, 3, 1, 0, 4, 0}, []int{5}},
		{"in the middle of a chain", []int{3, 1, 4, 0, 4, 1, 3}, 1, 4, []int{3, 1, 3}, []int{4, 0, 4}},
		{"the whole of the rest", []int{3, 1, 4, 0, 4, 1, 3}, 3, 1, []int{3}, []int{1, 4, 0, 4, 1}},
	} {
		wantSplit(t, c.t, c.u, c.v, c.root, c.other)
		wantSplit(t, c.t, c.v, c.u, c.root, c.other)
	}
	for _, e := range []impl.Edge{edge(0, 2), edge(1, 4), edge(2, 3), edge(3, 5), edge(0, 5), edge(2, 4)} {
		wantNotSplit(t, tour, e.A, e.B, "no edge")
		wantNotSplit(t, tour, e.B, e.A, "no edge")
	}
	for v := -1; v <= impl.MaxVerts; v++ {
		wantNotSplit(t, tour, v, v, "the same")
		wantNotSplit(t, tour, v, 6, "one is not in it")
		wantNotSplit(t, tour, -1, v, "one is not in it")
		wantNotSplit(t, []int{0}, 0, v, "of one vertex")
	}
	for _, v := range []int{math.MinInt, math.MaxInt, impl.MaxVerts} {
		wantNotSplit(t, tour, 0, v, "one is not in it")
		wantNotSplit(t, tour, v, 0, "one is not in it")
	}
}

func wantSplit(t *testing.T, tour []int, u int, v int, root []int, other []int) {
	t.Helper()
	if one, two, ok := impl.SplitTour(tour, u, v); !ok || !slices.Equal(one, root) || !slices.Equal(two, other) {
		t.Fatalf("SplitTour(%v, %d, %d) = %v, %v, %v; want %v, %v, true", tour, u, v, one, two, ok, root, other)
	}
}

func wantNotSplit(t *testing.T, tour []int, u int, v int, why string) {
	t.Helper()
	if one, two, ok := impl.SplitTour(tour, u, v); ok || len(one) != 0 || len(two) != 0 {
		t.Fatalf("SplitTour(%v, %d, %d) (%s) = %v, %v, %v; want nothing, nothing, false", tour, u, v, why, one, two, ok)
	}
}

func TestToursThatAreNotRight(t *testing.T) {
	for what, wrong := range wrongTours() {
		for v := -1; v <= impl.MaxVerts; v++ {
			wantNotRerooted(t, wrong, v, what)
			free := 4 + (v+8)%7 // mostly none of the wrong tour's
			wantNotJoined(t, wrong, v, []int{free}, free, what)
			wantNotJoined(t, []int{free}, free, wrong, v, what)
			wantNotJoined(t, wrong, 0, wrong, v, what)
			for u := -1; u <= impl.MaxVerts; u++ {
				wantNotSplit(t, wrong, u, v, what)
			}
		}
		for _, v := range []int{math.MinInt, math.MaxInt} {
			wantNotRerooted(t, wrong, v, what)
			wantNotJoined(t, wrong, v, []int{9}, 9, what)
			wantNotSplit(t, wrong, 0, v, what)
			wantNotSplit(t, wrong, v, 0, what)
		}
	}
}

// wantJoinedAndSplit joins two trees and splits them again at the same edge: but for their roots they are as they were.
func wantJoinedAndSplit(t *testing.T, a []int, u int, b []int, v int) {
	t.Helper()
	want := tourOfLetters(joinedByWords(lettersOf(a), letterOf(u), lettersOf(b), letterOf(v)))
	wantJoined(t, a, u, b, v, want)
	wantSameTree(t, "JoinTours", want, a, b, []int{u, v})
	rerooted, _ := impl.Reroot(b, v)
	wantSplit(t, want, u, v, a, rerooted)
	wantSplit(t, want, v, u, a, rerooted)
	wantSameTree(t, "JoinTours, and SplitTour", rerooted, b)
}

// wantSplitAndJoined splits a tree at each edge that it has, and joins it again there.
func wantSplitAndJoined(t *testing.T, tour []int) {
	t.Helper()
	edges := edgesByWords(tour)
	for _, e := range allEdges(impl.MaxVerts) {
		if !slices.Contains(edges, e) {
			wantNotSplit(t, tour, e.A, e.B, "no edge")
			wantNotSplit(t, tour, e.B, e.A, "no edge")
			continue
		}
		one, two := splitByWords(lettersOf(tour), letterOf(e.A), letterOf(e.B))
		root, other := tourOfLetters(one), tourOfLetters(two)
		wantSplit(t, tour, e.A, e.B, root, other)
		wantSplit(t, tour, e.B, e.A, root, other)
		above, below := e.A, e.B
		if slices.Contains(root, below) {
			above, below = below, above
		}
		if root[0] != tour[0] || other[0] != below || !tourOkByWords(root) || !tourOkByWords(other) {
			t.Fatalf("SplitTour(%v, %d, %d) = %v, %v: one of them is no tour from the right root", tour, e.A, e.B, root, other)
		}
		wantSameTree(t, "SplitTour", tour, root, other, []int{above, below})
		joined, ok := impl.JoinTours(root, above, other, below)
		if !ok || joined[0] != tour[0] {
			t.Fatalf("JoinTours(%v, %d, %v, %d) = %v, %v", root, above, other, below, joined, ok)
		}
		wantSameTree(t, "SplitTour, and JoinTours", joined, tour)
		joined, ok = impl.JoinTours(other, below, root, above)
		if !ok || joined[0] != below {
			t.Fatalf("JoinTours(%v, %d, %v, %d) = %v, %v", other, below, root, above, joined, ok)
		}
		wantSameTree(t, "SplitTour, and JoinTours the other way", joined, tour)
	}
}

func TestJoinedAndSplitAgain(t *testing.T) {
	for bits := 1; bits < 1<<5-1; bits++ { // some of five vertices, and the others
		for _, a := range toursOn(pickedVerts(5, bits)) {
			for _, b := range toursOn(pickedVerts(5, 1<<5-1-bits)) {
				for _, u := range vertsByWords(a) {
					for _, v := range vertsByWords(b) {
						wantJoinedAndSplit(t, a, u, b, v)
					}
				}
			}
		}
	}
	drawn := drawnNumber(46)
	for i := range 600 {
		order := drawn.order(impl.MaxVerts)
		at, end := 1+i%(impl.MaxVerts-1), impl.MaxVerts-drawn.below(2)*drawn.below(4)
		end = max(end, at+1)
		a, b := drawn.tour(order[:at]), drawn.tour(order[at:end])
		for range 4 {
			wantJoinedAndSplit(t, a, order[drawn.below(at)], b, order[at+drawn.below(end-at)])
		}
	}
}

func TestSplitAndJoinedAgain(t *testing.T) {
	for _, tour := range append(everySmallTour(), drawnTours()...) {
		wantSplitAndJoined(t, tour)
	}
	wantSplitAndJoined(t, longTour())
}

// A vertex in common is told wherever it stands in both, and whichever it is.
func TestJoinToursWithAVertexInCommon(t *testing.T) {
	drawn := drawnNumber(56)
	for range 500 {
		order := drawn.order(impl.MaxVerts)
		at := 1 + drawn.below(impl.MaxVerts-1)
		a, b := order[:at], order[at:min(impl.MaxVerts, at+6)]
		common := a[drawn.below(len(a))]
		both := slices.Insert(slices.Clone(b), drawn.below(len(b)+1), common)
		wantNotJoined(t, drawn.tour(a), a[0], drawn.tour(both), b[0], "a vertex in common")
		wantNotJoined(t, drawn.tour(both), b[0], drawn.tour(a), a[0], "a vertex in common")
		wantNotJoined(t, drawn.tour(both), common, drawn.tour(a), common, "a vertex in common")
	}
}

func TestVertsOf(t *testing.T) {
	for _, c := range []struct{ t, want []int }{
		{nil, nil}, {[]int{}, nil}, {[]int{0}, []int{0}}, {[]int{11}, []int{11}}, {[]int{5, 5, 5}, []int{5}},
		{[]int{3, 1, 3}, []int{1, 3}}, {[]int{2, 0, 2, 1, 2}, []int{0, 1, 2}},
		{[]int{9, 4, 9, 4, 11, 0, 0, 4}, []int{0, 4, 9, 11}},
		{longTour(), []int{0, 1, 2, 3, 4, 5, 6, 7, 8, 9, 10, 11}},
	} {
		if got := impl.VertsOf(c.t); !slices.Equal(got, c.want) {
			t.Errorf("VertsOf(%v) = %v; want %v", c.t, got, c.want)
		}
	}
	for _, tour := range append(everySmallTour(), drawnTours()...) {
		if got, want := impl.VertsOf(tour), vertsByWords(tour); !slices.Equal(got, want) {
			t.Fatalf("VertsOf(%v) = %v; want %v", tour, got, want)
		}
	}
	drawn := drawnNumber(66)
	for size := range 200 {
		list := []int{}
		for range size {
			list = append(list, drawn.below(impl.MaxVerts))
		}
		if got, want := impl.VertsOf(list), vertsByWords(list); !slices.Equal(got, want) {
			t.Fatalf("VertsOf(%v) = %v; want %v", list, got, want)
		}
	}
}

// What is below 0, or MaxVerts and above, is no vertex, wherever it stands and whatever stands beside it.
func TestVertsOfLeavesOutWhatIsNoVertex(t *testing.T) {
	none := []int{math.MinInt, -impl.MaxVerts, -2, -1, impl.MaxVerts, impl.MaxVerts + 1, 100, math.MaxInt}
	for _, c := range []struct{ t, want []int }{
		{none, nil}, {slices.Repeat(none, 3), nil},
		{[]int{-1, 7, 7, 10}, []int{7, 10}},
		{[]int{0, impl.MaxVerts - 1, impl.MaxVerts}, []int{0, impl.MaxVerts - 1}},
		{[]int{-1, 0, -1}, []int{0}},
		{slices.Concat(none, longTour(), none), []int{0, 1, 2, 3, 4, 5, 6, 7, 8, 9, 10, 11}},
	} {
		if got := impl.VertsOf(c.t); !slices.Equal(got, c.want) {
			t.Errorf("VertsOf(%v) = %v; want %v", c.t, got, c.want)
		}
	}
	for _, odd := range none {
		if got := impl.VertsOf([]int{odd}); len(got) != 0 {
			t.Errorf("VertsOf of %d alone = %v; want nothing", odd, got)
		}
		for _, tour := range drawnTours() {
			for place := range len(tour) + 1 {
				list := slices.Insert(slices.Clone(tour), place, odd)
				if got, want := impl.VertsOf(list), vertsByWords(tour); !slices.Equal(got, want) {
					t.Fatalf("VertsOf(%v) = %v; want %v", list, got, want)
				}
			}
		}
	}
	drawn := drawnNumber(96)
	for size := range 200 {
		list := []int{}
		for range size {
			list = append(list, drawn.below(3*impl.MaxVerts)-impl.MaxVerts)
		}
		if got, want := impl.VertsOf(list), vertsByWords(list); !slices.Equal(got, want) {
			t.Fatalf("VertsOf(%v) = %v; want %v", list, got, want)
		}
	}
}

// A tree that lives for long has, whatever is done to it, just the edges that were joined and not split.
func TestToursForLong(t *testing.T) {
	drawn := drawnNumber(76)
	trees, joins, splits := [][]int{}, 0, 0
	for v := range impl.MaxVerts {
		trees = append(trees, []int{v})
	}
	g := graphOf(impl.MaxVerts)
	holds := func(v int) func([]int) bool {
		return func(tree []int) bool { return slices.Contains(tree, v) }
	}
	for range 4000 {
		u, v := drawn.below(impl.MaxVerts), drawn.below(impl.MaxVerts)
		one, two := slices.IndexFunc(trees, holds(u)), slices.IndexFunc(trees, holds(v))
		if joined, ok := impl.JoinTours(trees[one], u, trees[two], v); ok != (one != two) {
			t.Fatalf("JoinTours(%v, %d, %v, %d) is %v", trees[one], u, trees[two], v, ok)
		} else if ok {
			trees[one], joins = joined, joins+1
			trees = slices.Delete(trees, two, two+1)
			g, _ = impl.AddEdge(g, edge(min(u, v), max(u, v)))
		} else if root, other, ok := impl.SplitTour(trees[one], u, v); ok != slices.Contains(g.Edges, edge(min(u, v), max(u, v))) {
			t.Fatalf("SplitTour(%v, %d, %d) is %v", trees[one], u, v, ok)
		} else if ok {
			trees[one], splits = root, splits+1
			trees = append(trees, other)
			g, _ = impl.TakeEdge(g, edge(min(u, v), max(u, v)))
		} else if rerooted, ok := impl.Reroot(trees[one], v); !ok {
			t.Fatalf("Reroot(%v, %d) is false", trees[one], v)
		} else {
			trees[one] = rerooted
		}
		for _, tree := range trees {
			want, ok := impl.TourOf(g.N, g.Edges, tree[0])
			if !ok || !slices.Equal(vertsByWords(want), impl.VertsOf(tree)) {
				t.Fatalf("TourOf(%d, %v, %d) = %v, %v; the tree is %v", g.N, g.Edges, tree[0], want, ok, tree)
			}
			wantSameTree(t, "a tree that lives", tree, want)
		}
	}
	if joins < 300 || splits < 300 {
		t.Errorf("only %d trees were joined, and %d split", joins, splits)
	}
}

func TestToursLeaveArgumentsAlone(t *testing.T) {
	const fill = 77
	drawn, tours := drawnNumber(86), append(everySmallTour(), drawnTours()...)
	for _, wrong := range wrongTours() {
		tours = append(tours, wrong[:min(len(wrong), longestTour+2)])
	}
	for _, was := range tours {
		tour, free := within(was, fill), within([]int{11, 10, 11}, fill)
		edges := within(edgesByWords(was), edge(fill, fill))
		slices.Reverse(edges) // an order that a careless sort would not leave
		edgesWere := slices.Clone(edges[:cap(edges)])
		lists := [][]int{tour, free}
		u, v := was[min(len(was), 1)*drawn.below(max(len(was), 1)):], 0
		if len(u) > 0 {
			v = u[0]
		}
		rerooted, _ := impl.Reroot(tour, v)
		again, _ := impl.Reroot(tour, 0)
		same, _ := impl.Reroot(free, 11)
		joined, _ := impl.JoinTours(tour, v, free, 10)
		round, _ := impl.JoinTours(free, 11, tour, v)
		whole, _ := impl.TourOf(impl.MaxVerts, edges, min(max(v, 0), 11))
		lists = append(lists, rerooted, again, same, joined, round, whole, impl.VertsOf(tour), impl.VertsOf(free))
		for i := 1; i < len(was); i++ {
			root, other, _ := impl.SplitTour(tour, was[i-1], was[i])
			lists = append(lists, root, other)
		}
		impl.TourOk(tour)
		wantApart(t, "tours that were handed in and answered", lists...)
		if want := within(was, fill); !slices.Equal(tour[:cap(tour)], want[:cap(want)]) {
			t.Fatalf("the tour %v, or the room behind it, is now %v", was, tour[:cap(tour)])
		}
		if want := []int{11, 10, 11, fill, fill, fill, fill}; !slices.Equal(free[:cap(free)], want) {
			t.Fatalf("the other tour, or the room behind it, is now %v", free[:cap(free)])
		}
		if !slices.Equal(edges[:cap(edges)], edgesWere) {
			t.Fatalf("the edges %v, or the room behind them, are now %v", edgesWere, edges[:cap(edges)])
		}
	}
}

// What is answered is the caller's: writing into it changes no later answer.
func TestToursAreKeptNowhere(t *testing.T) {
	for _, v := range []int{0, 1, 2} {
		tour := []int{0, 1, 0, 2, 0}
		for range 3 {
			rerooted, _ := impl.Reroot(tour, v)
			if want := tourOfLetters(rerootedByWords("abaca", letterOf(v))); !slices.Equal(rerooted, want) {
				t.Fatalf("Reroot(%v, %d) = %v; want %v", tour, v, rerooted, want)
			}
			root, other, _ := impl.SplitTour(tour, 0, 2)
			if !slices.Equal(root, []int{0, 1, 0}) || !slices.Equal(other, []int{2}) {
				t.Fatalf("SplitTour(%v, 0, 2) = %v, %v", tour, root, other)
			}
			for _, list := range [][]int{rerooted, root, other} {
				for i := range list {
					list[i] = 5
				}
				_ = append(list, 6, 6, 6)
			}
		}
		if !slices.Equal(tour, []int{0, 1, 0, 2, 0}) {
			t.Fatalf("the tour is now %v", tour)
		}
	}
}
