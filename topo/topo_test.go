package topo_test

import (
	"math"
	"math/rand"
	"slices"
	"testing"

	"turnout/api"
	"turnout/topo"
)

func link(a, pa, b, pb, least, most int) api.Link {
	return api.Link{A: a, PortA: pa, B: b, PortB: pb, Least: least, Most: most}
}

// square has four switches in a ring, a second link between two of them, and two hosts.
func square() api.Topo {
	return api.Topo{Switches: 5, Links: []api.Link{link(0, 3, 1, 0, 1, 5), link(2, 7, 1, 2, 2, 9), link(2, 1, 3, 0, 1, 1), link(3, 4, 0, 0, 3, 3), link(1, 6, 0, 1, 4, 4)}, Hosts: []api.Host{{At: 0, Port: 7}, {At: 2, Port: 0}}}
}

func TestRight(t *testing.T) { // 17.1
	var links []api.Link
	for i := range 25 { // 8 switches have places for 32 links
		links = append(links, link(i/7, i%7, 7-i/7, 7-i%7, 1, 1))
	}
	var hosts []api.Host
	for i := range 9 {
		hosts = append(hosts, api.Host{At: i % 8, Port: i / 8})
	}
	with := func(change func(x *api.Topo)) api.Topo {
		x := square()
		change(&x)
		return x
	}
	for i, x := range []struct {
		t  api.Topo
		is bool
	}{
		{square(), true}, {api.Topo{Switches: 1}, true}, {api.Topo{Switches: 8}, true}, {api.Topo{}, false}, {api.Topo{Switches: 9}, false}, {api.Topo{Switches: -1}, false}, {api.Topo{Switches: math.MaxInt}, false},
		{api.Topo{Switches: 2, Links: []api.Link{link(0, 0, 1, 1, 1, 1)}, Hosts: []api.Host{{At: 0, Port: 2}}}, true}, {api.Topo{Switches: 8, Links: links[:24]}, true}, {api.Topo{Switches: 8, Links: links}, false}, {api.Topo{Switches: 8, Hosts: hosts[:8]}, true}, {api.Topo{Switches: 8, Hosts: hosts}, false},
		{with(func(x *api.Topo) { x.Links[0].A = 5 }), false}, {with(func(x *api.Topo) { x.Links[0].A = -1 }), false}, {with(func(x *api.Topo) { x.Links[0].B = 5 }), false}, {with(func(x *api.Topo) { x.Links[0].B = -1 }), false}, {with(func(x *api.Topo) { x.Links[0].PortA = 8 }), false},
		{with(func(x *api.Topo) { x.Links[0].PortA = -1 }), false}, {with(func(x *api.Topo) { x.Links[0].PortB = 8 }), false}, {with(func(x *api.Topo) { x.Links[0].PortB = -1 }), false}, {with(func(x *api.Topo) { x.Hosts[0].At = 5 }), false}, {with(func(x *api.Topo) { x.Hosts[0].At = -1 }), false},
		{with(func(x *api.Topo) { x.Hosts[0].Port = 8 }), false}, {with(func(x *api.Topo) { x.Hosts[0].Port = -1 }), false}, {with(func(x *api.Topo) { x.Links[0].B = 0; x.Links[0].PortB = 5 }), false}, {with(func(x *api.Topo) { x.Links[0].Least = 0 }), false}, {with(func(x *api.Topo) { x.Links[0].Least = 6 }), false},
		{with(func(x *api.Topo) { x.Links[0].Most = 1000 }), true}, {with(func(x *api.Topo) { x.Links[0].Most = 1001 }), false}, {with(func(x *api.Topo) { x.Links[0].Least = -5; x.Links[0].Most = -4 }), false}, {with(func(x *api.Topo) { x.Links[0].Least = 5 }), true},
		{with(func(x *api.Topo) { x.Links[0].PortA = 7 }), false}, {with(func(x *api.Topo) { x.Links[4].PortB = 3 }), false}, {with(func(x *api.Topo) { x.Links[1].PortA = 1 }), false}, {with(func(x *api.Topo) { x.Hosts[1] = x.Hosts[0] }), false}, {with(func(x *api.Topo) { x.Hosts[1].Port = 1 }), false}, {with(func(x *api.Topo) { x.Hosts[0].Port = 6 }), true},
	} {
		if topo.Right(x.t) != x.is {
			t.Errorf("%d: Right = %v", i, !x.is)
		}
	}
}

func TestPeerAndHostAt(t *testing.T) { // 17.1, 17.3
	x := square()
	for sw := -1; sw <= 6; sw++ {
		for port := -1; port <= 8; port++ {
			var want [3]int
			found := false
			for i, l := range x.Links {
				if l.A == sw && l.PortA == port {
					want, found = [3]int{l.B, l.PortB, i}, true
				}
				if l.B == sw && l.PortB == port {
					want, found = [3]int{l.A, l.PortA, i}, true
				}
			}
			a, b, c, ok := topo.Peer(x, sw, port)
			if [3]int{a, b, c} != want || ok != found {
				t.Errorf("Peer(%d, %d) = %d, %d, %d, %v", sw, port, a, b, c, ok)
			}
			if ok {
				if s, p, i, _ := topo.Peer(x, a, b); s != sw || p != port || i != c {
					t.Error("Peer is not symmetric", sw, port)
				}
			}
			host := -1
			for i, h := range x.Hosts {
				if h.At == sw && h.Port == port {
					host = i
				}
			}
			if got := topo.HostAt(x, sw, port); got != host {
				t.Errorf("HostAt(%d, %d) = %d", sw, port, got)
			}
		}
	}
}

func TestNearAndSlowest(t *testing.T) { // 17.1
	x := square()
	for sw, want := range [][]topo.Side{
		{{Port: 0, To: 3, Link: 3}, {Port: 1, To: 1, Link: 4}, {Port: 3, To: 1, Link: 0}}, {{Port: 0, To: 0, Link: 0}, {Port: 2, To: 2, Link: 1}, {Port: 6, To: 0, Link: 4}}, {{Port: 1, To: 3, Link: 2}, {Port: 7, To: 1, Link: 1}}, {{Port: 0, To: 2, Link: 2}, {Port: 4, To: 0, Link: 3}}, nil, nil,
	} {
		if got := topo.Near(x, sw); !slices.Equal(got, want) {
			t.Errorf("Near(%d) = %v; want %v", sw, got, want)
		}
	}
	if len(topo.Near(x, -1)) != 0 || topo.Slowest(x) != 9 || topo.Slowest(api.Topo{Switches: 3}) != 0 {
		t.Error("Near or Slowest")
	}
}

func TestHopsAndWhole(t *testing.T) { // 17.2
	x := square()
	for sw, want := range [][]int{{0, 1, 2, 1, -1}, {1, 0, 1, 2, -1}, {2, 1, 0, 1, -1}, {1, 2, 1, 0, -1}, {-1, -1, -1, -1, 0}, {-1, -1, -1, -1, -1}} {
		if got := topo.Hops(x, sw); !slices.Equal(got, want) {
			t.Errorf("Hops(%d) = %v; want %v", sw, got, want)
		}
	}
	if got := topo.Hops(x, -1); !slices.Equal(got, []int{-1, -1, -1, -1, -1}) {
		t.Error(got)
	}
	if topo.Whole(x) || !topo.Whole(api.Topo{Switches: 1}) || topo.Whole(api.Topo{Switches: 2}) {
		t.Error("Whole")
	}
	x.Links = append(x.Links, link(4, 4, 3, 7, 1, 1))
	if !topo.Whole(x) {
		t.Error("Whole")
	}
}

// some is a valid topology with links at random places.
func some(r *rand.Rand) api.Topo {
	x := api.Topo{Switches: 1 + r.Intn(8)}
	for range r.Intn(25) {
		next := x
		next.Links = append(slices.Clone(x.Links), link(r.Intn(8), r.Intn(8), r.Intn(8), r.Intn(8), 1, 1+r.Intn(9)))
		if topo.Right(next) {
			x = next
		}
	}
	return x
}

func TestHopsAreDistances(t *testing.T) { // 17.2, 17.3
	r := rand.New(rand.NewSource(28))
	for range 500 {
		x := some(r)
		const far = 100
		var d [8][8]int // by Floyd and Warshall
		for i := range d {
			for j := range d {
				if i != j {
					d[i][j] = far
				}
			}
		}
		for _, l := range x.Links {
			d[l.A][l.B], d[l.B][l.A] = 1, 1
		}
		for k := range d {
			for i := range d {
				for j := range d {
					d[i][j] = min(d[i][j], d[i][k]+d[k][j])
				}
			}
		}
		whole := true
		for sw := range x.Switches {
			hops := topo.Hops(x, sw)
			for to := range x.Switches {
				want := d[sw][to]
				if want == far {
					want = -1
				}
				whole = whole && (sw != 0 || want >= 0)
				if len(hops) != x.Switches || hops[to] != want || topo.Hops(x, to)[sw] != want {
					t.Fatal(x, sw, to, hops, want)
				}
			}
			for _, l := range x.Links {
				if a, b := hops[l.A], hops[l.B]; a-b > 1 || b-a > 1 {
					t.Fatal(x, sw, l, hops)
				}
			}
		}
		if topo.Whole(x) != whole {
			t.Fatal(x)
		}
	}
}

func TestWrongTopologiesDoNotPanic(t *testing.T) { // P1
	for _, x := range []api.Topo{{Switches: -5}, {Switches: math.MaxInt}, {Switches: 2, Links: []api.Link{link(0, 0, 9, 1, 1, 1), link(-3, 0, 1, 1, 1, 1)}}, {Links: []api.Link{{}}}} {
		topo.Hops(x, 0)
		topo.Whole(x)
		topo.Near(x, 0)
		topo.Peer(x, 0, 0)
		topo.HostAt(x, 0, 0)
		topo.Slowest(x)
	}
}
