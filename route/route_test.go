package route_test

import (
	"math"
	"math/rand"
	"slices"
	"testing"

	"turnout/api"
	"turnout/route"
	"turnout/rule"
	"turnout/short"
	"turnout/table"
	"turnout/topo"
)

func link(a, pa, b, pb int) api.Link {
	return api.Link{A: a, PortA: pa, B: b, PortB: pb, Least: 1, Most: 1}
}

// chain has three switches in a row, the hosts 0 and 1 at its ends, and the host 2 at the first switch.
func chain() (api.Topo, api.Routes) {
	t := api.Topo{Switches: 3, Links: []api.Link{link(0, 0, 1, 1), link(1, 2, 2, 3)}, Hosts: []api.Host{{At: 0, Port: 5}, {At: 2, Port: 6}, {At: 0, Port: 7}}}
	return t, api.Routes{{5, 0, 7}, {1, 2, 1}, {3, 6, 3}}
}

func TestExample(t *testing.T) { // 21.1
	x := api.Topo{Switches: 2, Links: []api.Link{link(0, 0, 1, 0)}, Hosts: []api.Host{{At: 1, Port: 1}}}
	if w, e := route.Walk(x, api.Routes{{0}, {1}}, 0, 0); !slices.Equal(w, []int{0, 1}) || e != api.OK {
		t.Error(w, e)
	}
}

func TestRight(t *testing.T) { // 21.1
	x, r := chain()
	wrong, _ := chain()
	wrong.Links[0].A = 7
	for i, y := range []struct {
		t  api.Topo
		r  api.Routes
		is bool
	}{
		{x, r, true}, {wrong, r, false}, {x, r[:2], false}, {x, append(slices.Clone(r), []int{0, 0, 0}), false}, {x, api.Routes{{5, 0}, {1, 2, 1}, {3, 6, 3}}, false}, {x, api.Routes{{5, 0, 7}, {1, 2, 1, 0}, {3, 6, 3}}, false}, {x, api.Routes{{5, 0, 7}, {1, 2, 1}, {3, 8, 3}}, false},
		{x, api.Routes{{5, 0, 7}, {1, 2, -1}, {3, 6, 3}}, false}, {x, api.Routes{{0, 0, 0}, {7, 7, 7}, {4, 4, 4}}, true}, {x, nil, false}, {api.Topo{Switches: 1}, api.Routes{nil}, true}, {api.Topo{Switches: 1}, nil, false}, {api.Topo{}, nil, false},
	} {
		if route.Right(y.t, y.r) != y.is {
			t.Errorf("%d: Right = %v", i, !y.is)
		}
		ways, e := route.Walk(y.t, y.r, 0, 0)
		if !y.is && (len(ways) != 0 || e != api.ErrArg || route.Good(y.t, y.r) || len(route.Far(y.t, y.r, 0)) != 0) {
			t.Errorf("%d: a result for routes that are not valid", i)
		}
	}
}

func TestNext(t *testing.T) { // 21.1
	x, r := chain()
	for _, y := range []struct {
		sw, h, to int
		ok        bool
	}{{0, 1, 1, true}, {1, 1, 2, true}, {1, 0, 0, true}, {2, 0, 1, true}, {0, 0, 0, false}, {2, 1, 0, false}, {3, 0, 0, false}, {-1, 0, 0, false}, {0, 3, 0, false}, {0, -1, 0, false}, {math.MaxInt, 0, 0, false}, {0, math.MinInt, 0, false}} {
		if to, ok := route.Next(x, r, y.sw, y.h); to != y.to || ok != y.ok {
			t.Errorf("Next(%d, %d) = %d, %v", y.sw, y.h, to, ok)
		}
	}
	// The routes need not be valid.
	ragged := api.Routes{{9, -1}, {}, {0, 0, 0, 3}}
	for sw, row := range ragged {
		for h := range 5 {
			to, ok := route.Next(x, ragged, sw, h)
			if sw == 2 && h == 3 {
				if to != 1 || !ok {
					t.Error(to, ok)
				}
			} else if to != 0 || ok {
				t.Error(row, h, to, ok)
			}
		}
	}
}

func TestWalkAndFar(t *testing.T) { // 21.1
	x, r := chain()
	for sw, rows := range [][][]int{{{0}, {0, 1, 2}, {0}}, {{1, 0}, {1, 2}, {1, 0}}, {{2, 1, 0}, {2}, {2, 1, 0}}} {
		for h, want := range rows {
			if w, e := route.Walk(x, r, sw, h); !slices.Equal(w, want) || e != api.OK {
				t.Errorf("Walk(%d, %d) = %v, %d", sw, h, w, e)
			}
		}
	}
	for h, want := range [][]int{{0, 1, 2}, {2, 1, 0}, {0, 1, 2}} {
		if f := route.Far(x, r, h); !slices.Equal(f, want) {
			t.Errorf("Far(%d) = %v", h, f)
		}
	}
	for _, y := range [][2]int{{-1, 0}, {3, 0}, {0, -1}, {0, 3}, {math.MaxInt, math.MinInt}} {
		if w, e := route.Walk(x, r, y[0], y[1]); len(w) != 0 || e != api.ErrArg {
			t.Error(y, w, e)
		}
	}
	if len(route.Far(x, r, 3)) != 0 || len(route.Far(x, r, -1)) != 0 || !route.Good(x, r) {
		t.Error("Far or Good")
	}
	for i, y := range []struct {
		r   api.Routes
		e   [3]api.Errno // of the walks of the three switches to host 1
		far []int
	}{
		{api.Routes{{5, 0, 7}, {1, 1, 1}, {3, 6, 3}}, [3]api.Errno{api.ErrLoop, api.ErrLoop, api.OK}, []int{-1, -1, 0}}, {api.Routes{{5, 0, 7}, {1, 4, 1}, {3, 6, 3}}, [3]api.Errno{api.ErrPort, api.ErrPort, api.OK}, []int{-1, -1, 0}},
		{api.Routes{{5, 7, 7}, {1, 2, 1}, {3, 6, 3}}, [3]api.Errno{api.ErrPort, api.OK, api.OK}, []int{-1, 1, 0}}, {api.Routes{{5, 0, 7}, {1, 2, 1}, {3, 5, 3}}, [3]api.Errno{api.ErrPort, api.ErrPort, api.ErrPort}, []int{-1, -1, -1}},
		{api.Routes{{5, 0, 7}, {1, 2, 1}, {3, 3, 3}}, [3]api.Errno{api.ErrLoop, api.ErrLoop, api.ErrLoop}, []int{-1, -1, -1}},
	} {
		for sw, want := range y.e {
			if w, e := route.Walk(x, y.r, sw, 1); e != want || (len(w) == 0) != (e != api.OK) {
				t.Errorf("%d: Walk(%d) = %v, %d", i, sw, w, e)
			}
		}
		if f := route.Far(x, y.r, 1); !slices.Equal(f, y.far) || route.Good(x, y.r) {
			t.Errorf("%d: Far = %v", i, f)
		}
	}
	// The switch of the host may lead on to another one and never come back.
	if w, e := route.Walk(x, api.Routes{{0, 0, 7}, {2, 2, 1}, {4, 6, 3}}, 0, 0); len(w) != 0 || e != api.ErrPort {
		t.Error(w, e)
	}
	if !route.Good(api.Topo{Switches: 2}, api.Routes{nil, {}}) {
		t.Error("routes without hosts are good")
	}
}

func TestTableAndSame(t *testing.T) { // 21.2
	x, r := chain()
	if l := route.Table(r, 1); !table.Same(l, []api.Rule{rule.Plain(api.Dst, 0, 10, 1), rule.Plain(api.Dst, 1, 10, 2), rule.Plain(api.Dst, 2, 10, 1)}) {
		t.Error(l)
	}
	if len(route.Table(r, 3)) != 0 || len(route.Table(r, -1)) != 0 || len(route.Table(nil, 0)) != 0 || route.Prio != 10 {
		t.Error("Table")
	}
	for sw := range r { // 21.3
		for h := range x.Hosts {
			for port := range 8 {
				p := api.Packet{9, h, 3, 1}
				if got := table.Run(route.Table(r, sw), port, p); !slices.Equal(got, []api.Sent{{Port: r[sw][h], P: p}}) {
					t.Error(sw, h, got)
				}
			}
		}
		if got := table.Run(route.Table(r, sw), 0, api.Packet{0, 3, 0, 0}); len(got) != 0 {
			t.Error(got)
		}
	}
	_, other := chain()
	if !route.Same(r, other) || !route.Same(nil, api.Routes{}) || !route.Same(api.Routes{nil}, api.Routes{{}}) || route.Same(r, r[:2]) || route.Same(r[:2], r) || route.Same(api.Routes{{1}}, api.Routes{{1, 2}}) {
		t.Error("Same")
	}
	other[2][1] = 0
	if route.Same(r, other) {
		t.Error("Same")
	}
}

func TestTreesAreGoodAndWalksEndInWalks(t *testing.T) { // 21.3
	r := rand.New(rand.NewSource(32))
	for range 400 {
		x := api.Topo{Switches: 1 + r.Intn(7)}
		var w []float64
		for range 20 {
			next := x
			next.Links = append(slices.Clone(x.Links), link(r.Intn(7), r.Intn(6), r.Intn(7), r.Intn(6)))
			if topo.Right(next) {
				x = next
				w = append(w, float64(r.Intn(4)))
			}
		}
		for h := range 1 + r.Intn(4) {
			x.Hosts = append(x.Hosts, api.Host{At: r.Intn(x.Switches), Port: 6 + h%2})
			if !topo.Right(x) {
				x.Hosts = x.Hosts[:len(x.Hosts)-1]
			}
		}
		routes, e := short.Routes(x, w)
		if e != api.OK {
			continue
		}
		if !route.Good(x, routes) {
			t.Fatal(x, w, routes)
		}
		for h := range x.Hosts {
			far := route.Far(x, routes, h)
			for sw := range x.Switches {
				way, e := route.Walk(x, routes, sw, h)
				if e != api.OK || way[0] != sw || way[len(way)-1] != x.Hosts[h].At || len(way)-1 != far[sw] {
					t.Fatal(x, routes, sw, h, way)
				}
				for i, at := range way {
					if end, e := route.Walk(x, routes, at, h); e != api.OK || !slices.Equal(end, way[i:]) || slices.Contains(way[:i], at) || far[at] != far[sw]-i {
						t.Fatal(x, routes, way, end)
					}
				}
			}
		}
	}
}
