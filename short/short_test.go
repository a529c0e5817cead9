package short_test

import (
	"math"
	"math/rand"
	"slices"
	"testing"

	"turnout/api"
	"turnout/float"
	"turnout/short"
	"turnout/topo"
	"turnout/weigh"
)

var (
	inf     = math.Inf(1)
	negZero = math.Copysign(0, -1)
)

func link(a, pa, b, pb int) api.Link {
	return api.Link{A: a, PortA: pa, B: b, PortB: pb, Least: 1, Most: 1}
}

// triangle has three switches, each connected with the others, and a host at each.
func triangle() api.Topo {
	return api.Topo{Switches: 3, Links: []api.Link{link(0, 0, 1, 0), link(1, 1, 2, 1), link(0, 2, 2, 2)}, Hosts: []api.Host{{At: 0, Port: 5}, {At: 1, Port: 6}, {At: 2, Port: 7}}}
}

func same(a, b float64) bool { return math.Float64bits(a) == math.Float64bits(b) }

func equal(a, b api.Routes) bool {
	return slices.EqualFunc(a, b, func(x, y []int) bool { return slices.Equal(x, y) })
}

func TestExamples(t *testing.T) { // 19.1, 19.2
	x := triangle()
	w := []float64{1, 1, 3}
	if c := short.Costs(x, w, 2); !slices.Equal(c, []float64{2, 1, 0}) {
		t.Error(c)
	}
	if s := short.Steps(x, w, 2); !slices.Equal(s, []int{2, 1, 0}) {
		t.Error(s)
	}
	if p, e := short.Tree(x, w, 2); !slices.Equal(p, []int{0, 1, 7}) || e != api.OK {
		t.Error(p, e)
	}
	if r, e := short.Routes(x, w); !equal(r, api.Routes{{5, 0, 0}, {0, 6, 1}, {1, 1, 7}}) || e != api.OK {
		t.Error(r, e)
	}
	w[2] = 2 // as cheap as the other way, and fewer steps
	if p, e := short.Tree(x, w, 2); !slices.Equal(p, []int{2, 1, 7}) || e != api.OK {
		t.Error(p, e)
	}
	if s := short.Steps(x, w, 2); !slices.Equal(s, []int{1, 1, 0}) {
		t.Error(s)
	}
}

func TestLinksThatAreDown(t *testing.T) { // 19.1, 19.2
	x := triangle()
	w := []float64{inf, 4, inf}
	if c := short.Costs(x, w, 2); !slices.Equal(c, []float64{inf, 4, 0}) {
		t.Error(c)
	}
	if s := short.Steps(x, w, 2); !slices.Equal(s, []int{-1, 1, 0}) {
		t.Error(s)
	}
	if p, e := short.Tree(x, w, 2); !slices.Equal(p, []int{-1, 1, 7}) || e != api.OK {
		t.Error(p, e)
	}
	if r, e := short.Routes(x, w); len(r) != 0 || e != api.ErrNone {
		t.Error(r, e)
	}
	w = []float64{math.MaxFloat64, math.MaxFloat64, inf} // the sum is infinite
	if c := short.Costs(x, w, 2); !slices.Equal(c, []float64{inf, math.MaxFloat64, 0}) {
		t.Error(c)
	}
	if s := short.Steps(x, w, 2); !slices.Equal(s, []int{-1, 1, 0}) {
		t.Error(s)
	}
	if p, e := short.Tree(x, w, 2); !slices.Equal(p, []int{-1, 1, 7}) || e != api.OK {
		t.Error(p, e)
	}
}

func TestZeroWeights(t *testing.T) { // 19.1, 19.2
	x := triangle()
	for _, w := range [][]float64{{0, negZero, negZero}, {negZero, negZero, negZero}} {
		if c := short.Costs(x, w, 2); !slices.EqualFunc(c, []float64{0, 0, 0}, same) {
			t.Error(c)
		}
		if p, e := short.Tree(x, w, 2); !slices.Equal(p, []int{2, 1, 7}) || e != api.OK {
			t.Error(p, e)
		}
	}
	w := []float64{1, 1 << 53, 1 << 53} // adding 1 changes nothing: the step over switch 1 costs as much
	if c := short.Costs(x, w, 2); !slices.Equal(c, []float64{1 << 53, 1 << 53, 0}) {
		t.Error(c)
	}
	if p, _ := short.Tree(x, w, 2); !slices.Equal(p, []int{2, 1, 7}) {
		t.Error(p)
	}
}

func TestParallelLinks(t *testing.T) { // 19.2
	x := api.Topo{Switches: 2, Links: []api.Link{link(0, 4, 1, 0), link(0, 2, 1, 1), link(0, 3, 1, 2)}, Hosts: []api.Host{{At: 1, Port: 7}}}
	for _, y := range []struct {
		w    []float64
		port int
	}{{[]float64{1, 2, 3}, 4}, {[]float64{1, 1, 1}, 2}, {[]float64{1, 2, 1}, 3}, {[]float64{inf, inf, 9}, 3}, {[]float64{0, 1, 0}, 3}} {
		if p, e := short.Tree(x, y.w, 0); !slices.Equal(p, []int{y.port, 7}) || e != api.OK {
			t.Error(y.w, p, e)
		}
	}
}

func TestErrors(t *testing.T) { // 19.1, 19.2
	x, w := triangle(), []float64{1, 1, 3}
	wrong := triangle()
	wrong.Links[0].A = 9
	for i, y := range []struct {
		t api.Topo
		w []float64
	}{{wrong, w}, {api.Topo{}, nil}, {x, w[:2]}, {x, append(w, 1)}, {x, []float64{1, -1, 1}}, {x, []float64{1, math.NaN(), 1}}} {
		ports, e := short.Tree(y.t, y.w, 99)
		routes, e2 := short.Routes(y.t, y.w)
		if len(short.Costs(y.t, y.w, 0)) != 0 || len(short.Steps(y.t, y.w, 0)) != 0 || len(ports) != 0 || e != api.ErrArg || len(routes) != 0 || e2 != api.ErrArg {
			t.Error(i)
		}
	}
	for _, i := range []int{-1, 3, math.MaxInt} {
		ports, e := short.Tree(x, w, i)
		if len(short.Costs(x, w, i)) != 0 || len(short.Steps(x, w, i)) != 0 || len(ports) != 0 || e != api.ErrNone {
			t.Error(i)
		}
	}
	if r, e := short.Routes(api.Topo{Switches: 2}, nil); !equal(r, api.Routes{nil, nil}) || e != api.OK {
		t.Error(r, e)
	}
	if r, e := short.Routes(api.Topo{Switches: 2, Hosts: []api.Host{{At: 0, Port: 0}}}, nil); len(r) != 0 || e != api.ErrNone {
		t.Error(r, e)
	}
}

// some is a valid topology with a host, and weights.
func some(r *rand.Rand) (api.Topo, []float64) {
	x := api.Topo{Switches: 1 + r.Intn(6)}
	x.Hosts = []api.Host{{At: r.Intn(x.Switches), Port: 7}}
	var w []float64
	weights := []float64{0, negZero, 0.1, 0.2, 0.3, 1, 1e-17, 1e16, inf, 1e308}
	for range r.Intn(12) {
		next := x
		next.Links = append(slices.Clone(x.Links), link(r.Intn(6), r.Intn(7), r.Intn(6), r.Intn(7)))
		if topo.Right(next) {
			x = next
			w = append(w, weights[r.Intn(len(weights))])
		}
	}
	return x, w
}

// cheapest walks all paths without repeated switches from sw.
func cheapest(x api.Topo, w []float64, sw, to int, seen []int, way []int) float64 {
	if sw == to {
		return weigh.Walk(w, way)
	}
	least := inf
	for _, side := range topo.Near(x, sw) {
		if weigh.Up(w, side.Link) && !slices.Contains(seen, side.To) {
			least = min(least, cheapest(x, w, side.To, to, append(slices.Clone(seen), side.To), append(slices.Clone(way), side.Link)))
		}
	}
	return least
}

func TestTreesLeadToTheHostAtTheSmallestCost(t *testing.T) { // 19.1, 19.2, 19.3
	r := rand.New(rand.NewSource(30))
	for range 1500 {
		x, w := some(r)
		at := x.Hosts[0].At
		costs, steps := short.Costs(x, w, at), short.Steps(x, w, at)
		ports, e := short.Tree(x, w, 0)
		if e != api.OK || len(ports) != x.Switches {
			t.Fatal(x, w, e)
		}
		for sw := range x.Switches {
			if want := cheapest(x, w, sw, at, []int{sw}, nil); !same(costs[sw], want) {
				t.Fatal(x, w, sw, costs, want)
			}
			if (ports[sw] < 0) != (costs[sw] == inf) || (steps[sw] < 0) != (costs[sw] == inf) {
				t.Fatal(x, w, sw, ports, costs, steps)
			}
			if ports[sw] < 0 {
				continue
			}
			seen, way := []int{sw}, []int(nil)
			for at := sw; ports[at] != 7; {
				to, _, l, ok := topo.Peer(x, at, ports[at])
				if !ok || slices.Contains(seen, to) || steps[to] != steps[at]-1 || !same(float.Plus(w[l], costs[to]), costs[at]) {
					t.Fatal(x, w, sw, ports, steps)
				}
				// No lower port has a step to a switch that is nearer by one.
				for _, side := range topo.Near(x, at) {
					if side.Port < ports[at] && weigh.Up(w, side.Link) && steps[side.To] == steps[at]-1 && float.Plus(w[side.Link], costs[side.To]) == costs[at] {
						t.Fatal(x, w, at, side, ports)
					}
				}
				seen, way, at = append(seen, to), append(way, l), to
			}
			if seen[len(seen)-1] != at || !same(weigh.Walk(w, way), costs[sw]) {
				t.Fatal(x, w, sw, seen)
			}
		}
		checkSteps(t, x, w, at, costs, steps)
		routes, e := short.Routes(x, w)
		if whole := !slices.Contains(ports, -1); whole != (e == api.OK) || !whole && (e != api.ErrNone || len(routes) != 0) {
			t.Fatal(x, w, routes, e)
		}
		for sw := range routes {
			if !slices.Equal(routes[sw], ports[sw:sw+1]) {
				t.Fatal(x, w, routes, ports)
			}
		}
	}
}

// checkSteps computes the numbers of steps by repeated improvement.
func checkSteps(t *testing.T, x api.Topo, w []float64, at int, costs []float64, steps []int) {
	t.Helper()
	want := slices.Repeat([]int{99}, x.Switches)
	want[at] = 0
	for range x.Switches {
		for sw := range x.Switches {
			for _, side := range topo.Near(x, sw) {
				if weigh.Up(w, side.Link) && costs[sw] < inf && float.Plus(w[side.Link], costs[side.To]) == costs[sw] {
					want[sw] = min(want[sw], want[side.To]+1)
				}
			}
		}
	}
	for sw := range want {
		if want[sw] == 99 {
			want[sw] = -1
		}
	}
	if !slices.Equal(steps, want) {
		t.Fatal(x, w, costs, steps, want)
	}
}
