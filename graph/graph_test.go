package graph_test

import (
	"math"
	"math/rand"
	"slices"
	"testing"

	"turnout/graph"
)

func edges(ends ...int) []graph.Edge {
	var l []graph.Edge
	for i := 0; i < len(ends); i += 2 {
		l = append(l, graph.Edge{From: ends[i], To: ends[i+1]})
	}
	return l
}

func TestRight(t *testing.T) { // 20.1
	if graph.Most != 16 {
		t.Error(graph.Most)
	}
	for i, x := range []struct {
		n  int
		l  []graph.Edge
		is bool
	}{
		{0, nil, true}, {16, edges(15, 0, 0, 15), true}, {3, edges(2, 2, 0, 1, 0, 1), true}, {17, nil, false}, {-1, nil, false}, {0, edges(0, 0), false}, {3, edges(0, 3), false}, {3, edges(3, 0), false}, {3, edges(0, -1), false}, {3, edges(-1, 0), false},
		{16, edges(0, 1, 16, 1), false}, {math.MaxInt, nil, false},
	} {
		if graph.Right(x.n, x.l) != x.is {
			t.Errorf("%d: Right = %v", i, !x.is)
		}
		order, ok := graph.Order(x.n, x.l)
		far, ok2 := graph.Far(x.n, x.l)
		if !x.is && (len(order) != 0 || ok || len(far) != 0 || ok2 || len(graph.Loop(x.n, x.l)) != 0 || len(graph.Reach(x.n, x.l, 0)) != 0) {
			t.Errorf("%d: a result for a graph that is not valid", i)
		}
	}
}

func TestExamples(t *testing.T) { // 20.1
	if o, ok := graph.Order(3, edges(2, 0, 0, 1)); !slices.Equal(o, []int{2, 0, 1}) || !ok {
		t.Error(o, ok)
	}
	if f, ok := graph.Far(3, edges(2, 0, 0, 1)); !slices.Equal(f, []int{1, 2, 0}) || !ok {
		t.Error(f, ok)
	}
	if o, ok := graph.Order(0, nil); len(o) != 0 || !ok {
		t.Error(o, ok)
	}
	if f, ok := graph.Far(0, nil); len(f) != 0 || !ok {
		t.Error(f, ok)
	}
	if o, ok := graph.Order(4, edges(3, 1)); !slices.Equal(o, []int{0, 2, 3, 1}) || !ok {
		t.Error(o, ok)
	}
	if o, ok := graph.Order(2, edges(1, 1)); len(o) != 0 || ok {
		t.Error(o, ok)
	}
	if f, ok := graph.Far(3, edges(0, 1, 1, 0)); len(f) != 0 || ok {
		t.Error(f, ok)
	}
	if f, ok := graph.Far(4, edges(0, 1, 1, 2, 0, 2, 0, 3, 0, 3)); !slices.Equal(f, []int{0, 1, 2, 1}) || !ok {
		t.Error(f, ok)
	}
}

func TestReach(t *testing.T) { // 20.1
	l := edges(4, 2, 2, 0, 0, 4, 1, 0, 3, 3)
	for from, want := range [][]int{{0, 2, 4}, {0, 1, 2, 4}, {0, 2, 4}, {3}, {0, 2, 4}} {
		if got := graph.Reach(5, l, from); !slices.Equal(got, want) {
			t.Errorf("Reach(%d) = %v; want %v", from, got, want)
		}
	}
	if len(graph.Reach(5, l, 5)) != 0 || len(graph.Reach(5, l, -1)) != 0 || len(graph.Reach(0, nil, 0)) != 0 {
		t.Error("no such node")
	}
	var chain []graph.Edge // downwards, so that each pass over the nodes reaches one more
	for i := range 15 {
		chain = append(chain, graph.Edge{From: i + 1, To: i})
	}
	if got := graph.Reach(16, chain, 15); len(got) != 16 {
		t.Error(got)
	}
	if f, ok := graph.Far(16, chain); f[0] != 15 || f[15] != 0 || !ok {
		t.Error(f)
	}
}

func TestLoop(t *testing.T) { // 20.1
	for i, x := range []struct {
		n    int
		l    []graph.Edge
		want []int
	}{
		{3, edges(2, 0, 0, 1), nil}, {3, edges(1, 2, 2, 1), []int{1, 2}}, {3, edges(0, 0), []int{0}}, {3, edges(0, 1, 1, 0, 0, 0), []int{0}}, {3, edges(0, 1, 1, 1), []int{1}}, {4, edges(0, 1, 1, 2, 2, 0, 1, 3, 3, 0), []int{0, 1, 2}},
		{4, edges(0, 3, 3, 0, 0, 1, 1, 2, 2, 0), []int{0, 3}}, {5, edges(0, 3, 0, 2, 3, 4, 2, 4, 4, 0), []int{0, 2, 4}}, {5, edges(1, 0, 1, 4, 4, 3, 3, 1), []int{1, 4, 3}}, {0, nil, nil}, {4, edges(0, 1, 1, 2, 2, 1, 2, 3, 3, 2), []int{1, 2}},
		{4, edges(0, 1, 1, 2, 2, 3, 3, 0), []int{0, 1, 2, 3}},
	} {
		if got := graph.Loop(x.n, x.l); !slices.Equal(got, x.want) {
			t.Errorf("%d: Loop = %v; want %v", i, got, x.want)
		}
	}
}

// paths are the numbers of edges of shortest paths with at least one edge, or 99.
func paths(n int, l []graph.Edge) [16][16]int {
	var d [16][16]int
	for i := range n {
		for j := range n {
			d[i][j] = 99
		}
	}
	for _, e := range l {
		d[e.From][e.To] = 1
	}
	for k := range n {
		for i := range n {
			for j := range n {
				d[i][j] = min(d[i][j], d[i][k]+d[k][j])
			}
		}
	}
	return d
}

func TestAgainstShortestPaths(t *testing.T) { // 20.1, 20.2
	r := rand.New(rand.NewSource(31))
	for range 3000 {
		n := r.Intn(17)
		var l []graph.Edge
		for range r.Intn(2*n + 1) {
			l = append(l, graph.Edge{From: r.Intn(n), To: r.Intn(n)})
			if r.Intn(2) == 0 { // many graphs have no cycle
				last := &l[len(l)-1]
				last.From, last.To = min(last.From, last.To), max(last.From, last.To)
				if last.From == last.To {
					l = l[:len(l)-1]
				}
			}
		}
		d := paths(n, l)
		start := -1
		for i := n - 1; i >= 0; i-- {
			if d[i][i] < 99 {
				start = i
			}
			var want []int
			for j := range n {
				if i == j || d[i][j] < 99 {
					want = append(want, j)
				}
			}
			if got := graph.Reach(n, l, i); !slices.Equal(got, want) {
				t.Fatal(n, l, i, got)
			}
		}
		checkLoop(t, n, l, d, start)
		checkOrder(t, n, l, start < 0)
	}
}

// checkLoop follows the cycle from its start, by the distances to it.
func checkLoop(t *testing.T, n int, l []graph.Edge, d [16][16]int, start int) {
	t.Helper()
	var want []int
	for node := start; node >= 0; {
		want = append(want, node)
		next := -1
		for to := n - 1; to >= 0; to-- {
			if slices.Contains(l, graph.Edge{From: node, To: to}) && to != start && (next < 0 || d[to][start] <= d[next][start]) {
				next = to
			}
		}
		if slices.Contains(l, graph.Edge{From: node, To: start}) {
			next = -1
		}
		node = next
	}
	if got := graph.Loop(n, l); !slices.Equal(got, want) {
		t.Fatal(n, l, got, want)
	}
}

func checkOrder(t *testing.T, n int, l []graph.Edge, free bool) {
	t.Helper()
	order, ok := graph.Order(n, l)
	far, ok2 := graph.Far(n, l)
	if ok != free || ok2 != free {
		t.Fatal(n, l, order)
	}
	if !free {
		return
	}
	place := map[int]int{}
	for i, node := range order {
		place[node] = i
	}
	for _, e := range l {
		if place[e.From] >= place[e.To] || far[e.To] < far[e.From]+1 {
			t.Fatal(n, l, order, far)
		}
	}
	for i, node := range order { // no smaller node could have been chosen
		for _, later := range order[i+1:] {
			if later < node && !slices.ContainsFunc(l, func(e graph.Edge) bool { return e.To == later && place[e.From] >= i }) {
				t.Fatal(n, l, order)
			}
		}
		if far[node] > 0 && !slices.ContainsFunc(l, func(e graph.Edge) bool { return e.To == node && far[e.From] == far[node]-1 }) {
			t.Fatal(n, l, far)
		}
	}
	if len(order) != n || len(far) != n || len(place) != n {
		t.Fatal(n, l, order, far)
	}
}
