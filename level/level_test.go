package level_test

import (
	"math"
	"math/rand"
	"slices"
	"testing"

	"turnout/api"
	"turnout/level"
	"turnout/route"
	"turnout/rule"
	"turnout/short"
	"turnout/topo"
)

func link(a, pa, b, pb int) api.Link {
	return api.Link{A: a, PortA: pa, B: b, PortB: pb, Least: 1, Most: 1}
}

func equal(a, b [][]int) bool {
	return slices.EqualFunc(a, b, func(x, y []int) bool { return slices.Equal(x, y) })
}

// triangle has three switches, each connected with the others, and two hosts.
func triangle() (api.Topo, api.Routes, api.Routes) {
	t := api.Topo{Switches: 3, Links: []api.Link{link(0, 0, 1, 0), link(1, 1, 2, 1), link(0, 2, 2, 2)}, Hosts: []api.Host{{At: 2, Port: 7}, {At: 0, Port: 6}}}
	return t, api.Routes{{2, 6}, {1, 0}, {7, 2}}, api.Routes{{0, 6}, {1, 1}, {7, 2}}
}

func TestMoves(t *testing.T) { // 23.1
	x, old, now := triangle()
	if l, e := level.Moves(x, old, now); !slices.Equal(l, []level.Move{{Sw: 0, Host: 0, Port: 0, Round: 2}, {Sw: 1, Host: 1, Port: 1, Round: 2}}) || e != api.OK {
		t.Error(l, e)
	}
	if l, e := level.Moves(x, now, old); !slices.Equal(l, []level.Move{{Sw: 0, Host: 0, Port: 2, Round: 1}, {Sw: 1, Host: 1, Port: 0, Round: 1}}) || e != api.OK {
		t.Error(l, e)
	}
	if l, e := level.Moves(x, old, old); len(l) != 0 || e != api.OK {
		t.Error(l, e)
	}
	bad := api.Routes{{0, 6}, {0, 1}, {7, 2}} // a loop
	for i, y := range [][2]api.Routes{{bad, now}, {old, bad}, {nil, now}, {old, nil}, {old[:2], now}} {
		if l, e := level.Moves(x, y[0], y[1]); len(l) != 0 || e != api.ErrArg {
			t.Error(i, l, e)
		}
	}
	if l, e := level.Moves(api.Topo{}, nil, nil); len(l) != 0 || e != api.ErrArg {
		t.Error(l, e)
	}
}

var moves = []level.Move{{Sw: 2, Host: 1, Port: 3, Round: 4}, {Sw: 0, Host: 0, Port: 4, Round: 1}, {Sw: 0, Host: 1, Port: 5, Round: 1}, {Sw: 1, Host: 0, Port: 6, Round: 4}, {Sw: 0, Host: 0, Port: 2, Round: 2}, {Sw: 0, Host: 0, Port: 3, Round: 1}}

func TestRoundsAndMods(t *testing.T) { // 23.1
	before := slices.Clone(moves)
	if r := level.Rounds(moves); !slices.Equal(r, []int{1, 2, 4}) || !slices.Equal(moves, before) {
		t.Error(r)
	}
	if r := level.Rounds([]level.Move{{Round: math.MaxInt}, {Round: -7}, {Round: math.MaxInt}}); !slices.Equal(r, []int{-7, math.MaxInt}) || len(level.Rounds(nil)) != 0 {
		t.Error(r)
	}
	mod := func(h, port int) api.Mod {
		return api.Mod{Kind: api.ModifyStrict, R: rule.Plain(api.Dst, h, 10, port)}
	}
	for _, x := range []struct {
		round, sw int
		want      []api.Mod
	}{{1, 0, []api.Mod{mod(0, 4), mod(1, 5), mod(0, 3)}}, {4, 2, []api.Mod{mod(1, 3)}}, {4, 1, []api.Mod{mod(0, 6)}}, {2, 0, []api.Mod{mod(0, 2)}}, {2, 1, nil}, {3, 0, nil}, {1, -1, nil}} {
		got := level.Mods(moves, x.round, x.sw)
		if !slices.EqualFunc(got, x.want, func(a, b api.Mod) bool { return a.Kind == b.Kind && a.Check == b.Check && rule.Same(a.R, b.R) }) {
			t.Errorf("Mods(%d, %d) = %v", x.round, x.sw, got)
		}
	}
}

func TestDone(t *testing.T) { // 23.2
	old := api.Routes{{0, 0}, {0, 0}, {0, 0}}
	for i, x := range []struct {
		round int
		some  []int
		want  api.Routes
	}{
		{0, []int{0, 1, 2}, old}, {1, nil, old}, {1, []int{1, 2}, old}, {1, []int{0}, api.Routes{{3, 5}, {0, 0}, {0, 0}}}, {2, nil, api.Routes{{3, 5}, {0, 0}, {0, 0}}}, {2, []int{0, 0}, api.Routes{{3, 5}, {0, 0}, {0, 0}}},
		{4, nil, api.Routes{{3, 5}, {0, 0}, {0, 0}}}, {4, []int{1}, api.Routes{{3, 5}, {6, 0}, {0, 0}}}, {4, []int{2, 9, -1}, api.Routes{{3, 5}, {0, 0}, {0, 3}}}, {5, nil, api.Routes{{3, 5}, {6, 0}, {0, 3}}},
	} {
		if got := level.Done(old, moves, x.round, x.some); !equal(got, x.want) {
			t.Errorf("%d: %v; want %v", i, got, x.want)
		}
	}
	if !equal(old, api.Routes{{0, 0}, {0, 0}, {0, 0}}) {
		t.Error("Done changes its argument")
	}
	if got := level.Done(old, []level.Move{{Sw: 0, Host: 0, Port: 1, Round: 3}, {Sw: 0, Host: 0, Port: 2, Round: 1}}, 4, nil); got[0][0] != 2 {
		t.Error("the last move in the list counts", got)
	}
	strange := []level.Move{{Sw: 3, Host: 0, Port: 1}, {Sw: -1, Host: 0, Port: 1}, {Sw: 0, Host: 2, Port: 1}, {Sw: 0, Host: -1, Port: 1}, {Sw: 1, Host: 1, Port: 77}, {Sw: math.MaxInt, Host: math.MinInt}}
	if got := level.Done(old, strange, 1, nil); !equal(got, api.Routes{{0, 0}, {0, 77}, {0, 0}}) {
		t.Error(got)
	}
	if got := level.Done(nil, strange, 1, nil); len(got) != 0 {
		t.Error(got)
	}
}

func TestUnion(t *testing.T) { // 23.2
	x, old, _ := triangle()
	for i, y := range []struct {
		round, h int
		want     [][]int
	}{
		{0, 0, [][]int{{2}, {1}, {7}}}, {1, 1, [][]int{{5, 6}, {0}, {2}}}, {2, 0, [][]int{{2, 3}, {1}, {7}}}, {2, 1, [][]int{{5}, {0}, {2}}}, {4, 0, [][]int{{3}, {1, 6}, {7}}}, {4, 1, [][]int{{5}, {0}, {2, 3}}}, {5, 0, [][]int{{3}, {6}, {7}}},
		{1, 2, nil}, {1, -1, nil},
	} {
		if got := level.Union(x, old, moves, y.round, y.h); !equal(got, y.want) {
			t.Errorf("%d: %v; want %v", i, got, y.want)
		}
	}
	same := []level.Move{{Sw: 0, Host: 0, Port: 2, Round: 1}, {Sw: 3, Host: 0, Port: 1, Round: 1}, {Sw: 5, Host: 0, Port: 1, Round: 1}, {Sw: -1, Host: 0, Port: 1, Round: 1}}
	if got := level.Union(x, old, same, 1, 0); !equal(got, [][]int{{2}, {1}, {7}}) {
		t.Error(got)
	}
	wrong := x
	wrong.Switches = 9
	if len(level.Union(wrong, old, moves, 1, 0)) != 0 || len(level.Union(x, old[:2], moves, 1, 0)) != 0 || len(level.Union(x, api.Routes{{8, 6}, {1, 0}, {7, 2}}, moves, 1, 0)) != 0 {
		t.Error("wrong arguments")
	}
}

// some is a valid topology with hosts, and two good routes.
func some(r *rand.Rand) (api.Topo, api.Routes, api.Routes, bool) {
	x := api.Topo{Switches: 2 + r.Intn(6)}
	for range 25 {
		next := x
		next.Links = append(slices.Clone(x.Links), link(r.Intn(x.Switches), r.Intn(6), r.Intn(x.Switches), r.Intn(6)))
		if topo.Right(next) {
			x = next
		}
	}
	for range 3 {
		next := x
		next.Hosts = append(slices.Clone(x.Hosts), api.Host{At: r.Intn(x.Switches), Port: 6 + r.Intn(2)})
		if topo.Right(next) {
			x = next
		}
	}
	weights := func() []float64 {
		var w []float64
		for range x.Links {
			w = append(w, float64(1+r.Intn(20)))
		}
		return w
	}
	old, e := short.Routes(x, weights())
	now, e2 := short.Routes(x, weights())
	return x, old, now, e == api.OK && e2 == api.OK
}

func TestRoutesAreGoodDuringRounds(t *testing.T) { // 23.1, 23.3
	r := rand.New(rand.NewSource(34))
	changes := 0
	for range 400 {
		x, old, now, ok := some(r)
		if !ok {
			continue
		}
		l, e := level.Moves(x, old, now)
		if e != api.OK {
			t.Fatal(x, old, now, e)
		}
		checkMoves(t, x, old, now, l)
		for _, round := range level.Rounds(l) {
			changes++
			for range 10 {
				var part []int
				for sw := range x.Switches {
					if r.Intn(2) == 0 {
						part = append(part, sw)
					}
				}
				if d := level.Done(old, l, round, part); !route.Good(x, d) {
					t.Fatal(x, old, now, round, part, d)
				}
			}
			for h := range x.Hosts {
				ports := level.Union(x, old, l, round, h)
				for sw := range x.Switches {
					leads(t, x, ports, h, []int{sw})
				}
			}
		}
		if d := level.Done(old, l, math.MaxInt, nil); !route.Same(d, now) {
			t.Fatal(x, old, now, d)
		}
	}
	if changes < 300 {
		t.Error(changes)
	}
}

// checkMoves checks that there is exactly one move for each difference, in order.
func checkMoves(t *testing.T, x api.Topo, old, now api.Routes, l []level.Move) {
	t.Helper()
	var want []level.Move
	for round := range 8 {
		for sw := range x.Switches {
			for h := range x.Hosts {
				if old[sw][h] != now[sw][h] && route.Far(x, now, h)[sw] == round {
					want = append(want, level.Move{Sw: sw, Host: h, Port: now[sw][h], Round: round})
				}
			}
		}
	}
	if !slices.Equal(l, want) {
		t.Fatal(x, old, now, l, want)
	}
}

// leads follows all ports that a packet may meet; none of them leads back or nowhere.
func leads(t *testing.T, x api.Topo, ports [][]int, h int, way []int) {
	t.Helper()
	for _, port := range ports[way[len(way)-1]] {
		if topo.HostAt(x, way[len(way)-1], port) == h {
			continue
		}
		to, _, _, ok := topo.Peer(x, way[len(way)-1], port)
		if !ok || slices.Contains(way, to) {
			t.Fatal(x, ports, h, way, port)
		}
		leads(t, x, ports, h, append(slices.Clone(way), to))
	}
}
