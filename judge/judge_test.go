package judge_test

import (
	"math"
	"math/rand"
	"slices"
	"testing"

	"turnout/api"
	"turnout/judge"
	"turnout/level"
	"turnout/plan"
	"turnout/route"
	"turnout/short"
	"turnout/topo"
)

func link(a, pa, b, pb int) api.Link {
	return api.Link{A: a, PortA: pa, B: b, PortB: pb, Least: 1, Most: 2}
}

// ring has four switches in a ring (port 1 leads to the next one, port 0 to the previous one), a host at the first one, and its routes in both directions.
func ring() (api.Topo, api.Routes, api.Routes) {
	t := api.Topo{Switches: 4, Hosts: []api.Host{{At: 0, Port: 7}}}
	for i := range 4 {
		t.Links = append(t.Links, link(i, 1, (i+1)%4, 0))
	}
	return t, api.Routes{{7}, {0}, {0}, {0}}, api.Routes{{7}, {1}, {1}, {1}}
}

func move(sw, port, round int) level.Move {
	return level.Move{Sw: sw, Host: 0, Port: port, Round: round}
}

// right is a plan for the ring without findings; the gap is 2*5 + 8 + 1.
func right() plan.Plan {
	return plan.Plan{Moves: []level.Move{move(3, 1, 1), move(2, 1, 2), move(1, 1, 3)}, Miss: 5,
		Rounds: []plan.Round{{No: 1, At: 100, Sws: []int{3}}, {No: 2, At: 119, Sws: []int{2}}, {No: 3, At: 138, Sws: []int{1}}}}
}

func TestFindings(t *testing.T) { // 25.1
	x, old, now := ring()
	for i, y := range []struct {
		change func(p *plan.Plan)
		want   []judge.Finding
	}{
		{func(p *plan.Plan) {}, nil},
		{func(p *plan.Plan) { *p = plan.Plan{} }, []judge.Finding{{judge.Missing, 1, 0}, {judge.Missing, 2, 0}, {judge.Missing, 3, 0}}},
		{func(p *plan.Plan) { p.Moves = p.Moves[:2] }, []judge.Finding{{judge.Missing, 1, 0}}},
		{func(p *plan.Plan) { p.Moves = append(p.Moves, move(3, 1, 1)) }, []judge.Finding{{judge.Missing, 3, 0}}}, // twice
		{func(p *plan.Plan) { p.Moves = append(p.Moves, move(3, 1, 9)) }, []judge.Finding{{judge.Extra, 3, 0}}},   // the second one is not executed
		{func(p *plan.Plan) { p.Moves = append(p.Moves, move(0, 7, 1)) }, []judge.Finding{{judge.Extra, 3, 0}}},   // executed by no round
		{func(p *plan.Plan) { p.Rounds[0].Sws = []int{0, 3, 3} }, nil},                                            // a switch without moves
		{func(p *plan.Plan) { p.Rounds = append(p.Rounds, plan.Round{No: 1, At: 157, Sws: []int{3}}) }, nil},      // executed twice
		{func(p *plan.Plan) {
			p.Rounds = append(p.Rounds, plan.Round{No: 77, At: 157, Sws: []int{1, 2, 3, 9, -1}})
		}, nil}, // executes nothing
		{func(p *plan.Plan) {
			p.Moves = append(p.Moves, level.Move{Sw: 4, Host: 0, Port: 1, Round: 1}, level.Move{Sw: -1, Host: 0, Port: 1, Round: 1})
		}, []judge.Finding{{judge.Extra, 3, 0}, {judge.Extra, 4, 0}}},
		{func(p *plan.Plan) {
			p.Moves = append(p.Moves, level.Move{Sw: 3, Host: 1, Port: 1, Round: 1}, level.Move{Sw: 3, Host: -5, Port: 1, Round: 1})
		}, []judge.Finding{{judge.Extra, 3, 1}, {judge.Extra, 4, -5}}},
		{func(p *plan.Plan) { p.Moves[0].Port = 5 }, []judge.Finding{{judge.Missing, 3, 0}, {judge.Extra, 0, 0}, {judge.Hole, 0, 0}, {judge.Hole, 1, 0}, {judge.Hole, 2, 0}}},
		{func(p *plan.Plan) { p.Moves[0].Port = 0 }, []judge.Finding{{judge.Missing, 3, 0}, {judge.Extra, 0, 0}, {judge.Loop, 1, 0}, {judge.Loop, 2, 0}}},
		{func(p *plan.Plan) { p.Rounds[1].Sws = nil }, []judge.Finding{{judge.Missing, 2, 0}, {judge.Extra, 1, 0}, {judge.Loop, 2, 0}}},
		{func(p *plan.Plan) { p.Rounds[1].At-- }, []judge.Finding{{judge.Close, 1, 0}}},
		{func(p *plan.Plan) { p.Rounds[1].At++ }, []judge.Finding{{judge.Close, 2, 0}}},
		{func(p *plan.Plan) { p.Miss = 6 }, []judge.Finding{{judge.Close, 1, 0}, {judge.Close, 2, 0}}},
		{func(p *plan.Plan) { p.Miss = -1 }, nil},
		{func(p *plan.Plan) { p.Miss = math.MinInt; p.Rounds[1].At = 109; p.Rounds[2].At = 117 }, []judge.Finding{{judge.Close, 2, 0}}},
		{func(p *plan.Plan) {
			p.Miss = math.MaxInt
			p.Rounds[1].At = 100 + 1<<21 + 9
			p.Rounds[2].At = p.Rounds[1].At + 1<<21 + 8
		}, []judge.Finding{{judge.Close, 2, 0}}},
		{func(p *plan.Plan) { p.Rounds[0].At = math.MinInt; p.Rounds[2].At = math.MaxInt }, nil},
		{func(p *plan.Plan) {
			p.Rounds[0].At = math.MaxInt
			p.Rounds[1].At = math.MinInt
			p.Rounds[2].At = math.MinInt
		}, []judge.Finding{{judge.Close, 1, 0}, {judge.Close, 2, 0}}},
		{func(p *plan.Plan) { p.Rounds[0].At = math.MinInt; p.Rounds[1].At = -1<<50 + 18 }, []judge.Finding{{judge.Close, 1, 0}}},
		{func(p *plan.Plan) { p.Rounds[0].At = math.MinInt; p.Rounds[1].At = -1<<50 + 19 }, nil},
		{func(p *plan.Plan) { p.Rounds[1].At = 1<<50 - 19; p.Rounds[2].At = math.MaxInt }, nil},
		{func(p *plan.Plan) { p.Rounds[1].At = 1<<50 - 18; p.Rounds[2].At = math.MaxInt }, []judge.Finding{{judge.Close, 2, 0}}},
		{func(p *plan.Plan) { p.Rounds[1].At = math.MaxInt; p.Rounds[2].At = 1 << 60 }, []judge.Finding{{judge.Close, 2, 0}}},
		{func(p *plan.Plan) { p.Rounds[0], p.Rounds[2] = p.Rounds[2], p.Rounds[0] }, []judge.Finding{{judge.Close, 1, 0}, {judge.Close, 2, 0}, {judge.Loop, 0, 0}, {judge.Loop, 1, 0}, {judge.Loop, 2, 0}}},
	} {
		p := right()
		y.change(&p)
		if got := judge.Check(x, old, now, p); !slices.Equal(got, y.want) {
			t.Errorf("%d: %v; want %v", i, got, y.want)
		}
	}
}

func TestWrong(t *testing.T) { // 25.1
	x, old, now := ring()
	bad := api.Routes{{7}, {1}, {0}, {0}}
	single := []judge.Finding{{Kind: judge.Wrong}}
	for i, y := range []struct {
		t        api.Topo
		old, now api.Routes
	}{{x, bad, now}, {x, old, bad}, {x, nil, now}, {api.Topo{}, old, now}, {x, old[:3], now}} {
		if got := judge.Check(y.t, y.old, y.now, right()); !slices.Equal(got, single) {
			t.Errorf("%d: %v", i, got)
		}
	}
	if got := judge.Check(x, old, old, plan.Plan{}); len(got) != 0 {
		t.Error(got)
	}
}

func TestMovesOfARound(t *testing.T) { // 25.1
	x, old, now := ring()
	// All at once: every switch has both ports, so neighbours may send to each other.
	p := plan.Plan{Moves: []level.Move{move(3, 1, 1), move(2, 1, 1), move(1, 1, 1)}, Rounds: []plan.Round{{No: 1, Sws: []int{1, 2, 3}}}}
	if got := judge.Check(x, old, now, p); !slices.Equal(got, []judge.Finding{{judge.Loop, 0, 0}}) {
		t.Error(got)
	}
	// Several moves of a round: all their ports may be met, and the last one remains.
	p = right()
	p.Moves = []level.Move{move(3, 5, 1), move(3, 1, 1), move(2, 1, 2), move(1, 1, 3)}
	if got := judge.Check(x, old, now, p); !slices.Equal(got, []judge.Finding{{judge.Extra, 0, 0}, {judge.Hole, 0, 0}}) {
		t.Error(got)
	}
	p.Moves[0], p.Moves[1] = p.Moves[1], p.Moves[0]
	if got := judge.Check(x, old, now, p); !slices.Equal(got, []judge.Finding{{judge.Extra, 1, 0}, {judge.Hole, 0, 0}, {judge.Hole, 1, 0}, {judge.Hole, 2, 0}}) {
		t.Error(got)
	}
	// The host's own port at another switch is a hole, and so is the port of another host.
	x.Hosts = append(x.Hosts, api.Host{At: 3, Port: 5})
	old, now = api.Routes{{7, 0}, {0, 0}, {0, 1}, {0, 5}}, api.Routes{{7, 0}, {1, 0}, {1, 1}, {1, 5}}
	p = right()
	p.Moves[0].Port = 7
	got := judge.Check(x, old, now, p)
	if !slices.Contains(got, judge.Finding{Kind: judge.Hole, K: 0, H: 0}) || slices.ContainsFunc(got, func(f judge.Finding) bool { return f.Kind > judge.Extra && f.H == 1 }) {
		t.Error(got)
	}
	p.Moves[0].Port = 5
	if got := judge.Check(x, old, now, p); !slices.Contains(got, judge.Finding{Kind: judge.Hole, K: 0, H: 0}) {
		t.Error(got)
	}
	// A move of the second host is only found with it.
	p = right()
	p.Moves = append(p.Moves, level.Move{Sw: 3, Host: 1, Port: 6, Round: 3}, level.Move{Sw: 0, Host: 1, Port: 1, Round: 3})
	p.Rounds[2].Sws = []int{0, 1, 2, 3}
	if got := judge.Check(x, old, now, p); !slices.Equal(got, []judge.Finding{{judge.Extra, 3, 1}, {judge.Extra, 4, 1}, {judge.Hole, 2, 1}, {judge.Loop, 2, 1}}) {
		t.Error(got)
	}
}

func TestName(t *testing.T) { // 25.2
	for kind, want := range []string{"?", "wrong", "missing", "extra", "close", "hole", "loop", "?"} {
		if judge.Name(kind) != want {
			t.Error(kind, judge.Name(kind))
		}
	}
	if judge.Name(-1) != "?" || judge.Name(math.MaxInt) != "?" || judge.Wrong != 1 || judge.Loop != 6 {
		t.Error("Name")
	}
}

func some(r *rand.Rand) (api.Topo, api.Routes, api.Routes, bool) {
	x := api.Topo{Switches: 2 + r.Intn(5)}
	var w, v []float64
	for range 20 {
		next := x
		next.Links = append(slices.Clone(x.Links), link(r.Intn(6), r.Intn(6), r.Intn(6), r.Intn(6)))
		if topo.Right(next) {
			x, w, v = next, append(w, float64(1+r.Intn(9))), append(v, float64(1+r.Intn(9)))
		}
	}
	x.Hosts = []api.Host{{At: r.Intn(x.Switches), Port: 6}, {At: r.Intn(x.Switches), Port: 7}}
	old, _ := short.Routes(x, w)
	now, e := short.Routes(x, v)
	return x, old, now, e == api.OK
}

func TestPlansThatAreMadeHaveNoFindings(t *testing.T) { // 25.3
	r := rand.New(rand.NewSource(36))
	made, safe, unsafe := 0, 0, 0
	for range 1500 {
		x, old, now, ok := some(r)
		if !ok {
			continue
		}
		p, e := plan.Make(x, old, now, r.Intn(100), r.Intn(20), r.Intn(20))
		if e != api.OK {
			continue
		}
		made++
		if got := judge.Check(x, old, now, p); len(got) != 0 {
			t.Fatal(x, old, now, p, got)
		}
		// Another plan: with rounds in another order, merged, or with other numbers.
		for i := range p.Moves {
			if r.Intn(3) == 0 {
				p.Moves[i].Round = p.Rounds[r.Intn(len(p.Rounds))].No
			}
		}
		for i := range p.Rounds {
			p.Rounds[i].Sws = []int{0, 1, 2, 3, 4, 5}
		}
		if len(judge.Check(x, old, now, p)) != 0 {
			unsafe++
			continue
		}
		safe++
		goodOnTheWay(t, r, x, old, now, p)
	}
	if made < 200 || safe < 20 || unsafe < 20 {
		t.Error(made, safe, unsafe)
	}
}

// goodOnTheWay checks that the routes are good whatever part of a round is complete.
func goodOnTheWay(t *testing.T, r *rand.Rand, x api.Topo, old, now api.Routes, p plan.Plan) {
	t.Helper()
	routes := level.Done(old, nil, 0, nil)
	for _, round := range p.Rounds {
		for range 10 {
			part := level.Done(routes, nil, 0, nil)
			for _, sw := range r.Perm(x.Switches)[:r.Intn(x.Switches+1)] {
				for _, m := range p.Moves {
					if m.Sw == sw && m.Round == round.No {
						part[sw][m.Host] = m.Port
					}
				}
			}
			if !route.Good(x, part) {
				t.Fatal(x, old, now, p, part)
			}
		}
		for _, m := range p.Moves {
			if m.Round == round.No {
				routes[m.Sw][m.Host] = m.Port
			}
		}
	}
	if !route.Same(routes, now) {
		t.Fatal(x, old, now, p, routes)
	}
}
