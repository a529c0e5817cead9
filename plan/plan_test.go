package plan_test

import (
	"math"
	"math/rand"
	"slices"
	"testing"

	"turnout/api"
	"turnout/clock"
	"turnout/level"
	"turnout/plan"
	"turnout/route"
	"turnout/rule"
	"turnout/short"
	"turnout/topo"
)

func link(a, pa, b, pb, most int) api.Link {
	return api.Link{A: a, PortA: pa, B: b, PortB: pb, Least: 1, Most: most}
}

// ring has five switches in a ring and a host, and routes to it in both directions.
func ring() (api.Topo, api.Routes, api.Routes) {
	t := api.Topo{Switches: 5, Hosts: []api.Host{{At: 0, Port: 7}}}
	for i := range 5 {
		t.Links = append(t.Links, link(i, 1, (i+1)%5, 0, i+1))
	}
	return t, api.Routes{{7}, {0}, {0}, {0}, {0}}, api.Routes{{7}, {1}, {1}, {1}, {1}}
}

func equal(a, b plan.Plan) bool {
	return slices.Equal(a.Moves, b.Moves) && a.Miss == b.Miss && a.Life == b.Life && a.From == b.From && a.To == b.To &&
		slices.EqualFunc(a.Rounds, b.Rounds, func(x, y plan.Round) bool { return x.No == y.No && x.At == y.At && slices.Equal(x.Sws, y.Sws) })
}

func TestLifeAndGap(t *testing.T) { // 24.1
	x, _, _ := ring()
	if plan.Life(x) != 25 || plan.Gap(x, 10) != 46 || plan.Gap(x, 0) != 26 {
		t.Error(plan.Life(x), plan.Gap(x, 10))
	}
	three := api.Topo{Switches: 3, Links: []api.Link{link(0, 0, 1, 0, 2)}}
	if plan.Gap(three, 4) != 15 || plan.Life(three) != 6 || plan.Life(api.Topo{Switches: 3}) != 0 || plan.Gap(api.Topo{Switches: 3}, 4) != 9 {
		t.Error(plan.Gap(three, 4))
	}
}

func TestMake(t *testing.T) { // 24.1
	x, old, now := ring()
	p, e := plan.Make(x, old, now, 100, 10, 7)
	want := plan.Plan{Miss: 10, Life: 25, From: 108, To: 143 + 3*46 + 10}
	for i := range 4 { // switch 4 is next to the host in the new routes
		want.Moves = append(want.Moves, level.Move{Sw: 4 - i, Host: 0, Port: 1, Round: i + 1})
		want.Rounds = append(want.Rounds, plan.Round{No: i + 1, At: 143 + 46*i, Sws: []int{4 - i}})
	}
	if e != api.OK || !equal(p, want) {
		t.Error(p, e, want)
	}
	// Only some rounds have moves, and they keep their numbers.
	middle := api.Routes{{7}, {0}, {0}, {1}, {1}}
	p, e = plan.Make(x, middle, now, 0, 0, 0)
	if e != api.OK || len(p.Rounds) != 2 || p.Rounds[0].No != 3 || p.Rounds[0].At != 26 || p.Rounds[1].No != 4 || p.Rounds[1].At != 52 || p.From != 1 || p.To != 52 || !slices.Equal(p.Rounds[0].Sws, []int{2}) {
		t.Error(p, e)
	}
	if p, e := plan.Make(x, old, old, 100, 10, 7); e != api.ErrNone || !equal(p, plan.Plan{}) {
		t.Error(p, e)
	}
}

func TestMakeErrors(t *testing.T) { // 24.1
	x, old, now := ring()
	const span = 1 << 20
	bad := api.Routes{{7}, {1}, {0}, {0}, {0}}
	// To is at + lead + 2*miss + 26 + 3*(2*miss + 26)
	for i, y := range []struct {
		old, now       api.Routes
		at, miss, lead int
		e              api.Errno
	}{
		{old, now, 0, span, span, api.OK}, {old, now, -1, 0, 0, api.ErrArg}, {old, now, clock.End + 1, 0, 0, api.ErrArg}, {old, now, 0, -1, 0, api.ErrArg}, {old, now, 0, span + 1, 0, api.ErrArg}, {old, now, 0, 0, -1, api.ErrArg}, {old, now, 0, 0, span + 1, api.ErrArg},
		{bad, now, 0, 0, 0, api.ErrArg}, {old, bad, 0, 0, 0, api.ErrArg}, {nil, nil, 0, 0, 0, api.ErrArg}, {old, old, -1, 0, 0, api.ErrArg}, {old, now, clock.End, 0, 0, api.ErrOver}, {old, old, clock.End, 0, 0, api.ErrNone},
		{old, now, clock.End - 104, 0, 0, api.OK}, {old, now, clock.End - 103, 0, 0, api.ErrOver}, {old, now, clock.End - 104 - 80 - 5, 10, 5, api.OK}, {old, now, clock.End - 104 - 80 - 4, 10, 5, api.ErrOver}, {old, now, math.MinInt, math.MaxInt, math.MinInt, api.ErrArg},
	} {
		p, e := plan.Make(x, y.old, y.now, y.at, y.miss, y.lead)
		if e != y.e || e != api.OK && !equal(p, plan.Plan{}) || p.To > clock.End {
			t.Errorf("%d: %v, %d; want %d", i, p, e, y.e)
		}
	}
}

func TestParts(t *testing.T) { // 24.2
	p := plan.Plan{
		Moves:  []level.Move{{Sw: 1, Host: 0, Port: 3, Round: 2}, {Sw: 4, Host: 0, Port: 2, Round: 2}, {Sw: 1, Host: 1, Port: 5, Round: 2}, {Sw: 1, Host: 0, Port: 6, Round: 3}},
		Rounds: []plan.Round{{No: 2, Sws: []int{1, 4}}, {No: 3, Sws: []int{4, 1}}, {No: 9}},
	}
	mod := func(h, port int) api.Mod {
		return api.Mod{Kind: api.ModifyStrict, R: rule.Plain(api.Dst, h, 10, port)}
	}
	for k, want := range map[int][]plan.Part{
		0: {{Sw: 1, Mods: []api.Mod{mod(0, 3), mod(1, 5)}}, {Sw: 4, Mods: []api.Mod{mod(0, 2)}}}, 1: {{Sw: 4}, {Sw: 1, Mods: []api.Mod{mod(0, 6)}}}, 2: nil, 3: nil, -1: nil, math.MaxInt: nil,
	} {
		got := plan.Parts(p, k)
		if !slices.EqualFunc(got, want, func(a, b plan.Part) bool {
			return a.Sw == b.Sw && slices.EqualFunc(a.Mods, b.Mods, func(x, y api.Mod) bool { return x.Kind == y.Kind && x.Check == y.Check && rule.Same(x.R, y.R) })
		}) {
			t.Errorf("Parts(%d) = %v", k, got)
		}
	}
}

func TestGuarded(t *testing.T) { // 24.2
	p := plan.Plan{From: 5, To: 9}
	for at, want := range map[int]bool{4: false, 5: true, 7: true, 9: true, 10: false, math.MinInt: false, math.MaxInt: false} {
		if plan.Guarded(p, at) != want {
			t.Error(at)
		}
	}
	if plan.Guarded(plan.Plan{From: 9, To: 5}, 7) {
		t.Error("an empty guard")
	}
}

func TestRoundsAreFarApartAndComplete(t *testing.T) { // 24.1, 24.3
	r := rand.New(rand.NewSource(35))
	plans := 0
	for range 500 {
		x := api.Topo{Switches: 2 + r.Intn(6)}
		var w, v []float64
		for range 25 {
			next := x
			next.Links = append(slices.Clone(x.Links), link(r.Intn(8), r.Intn(6), r.Intn(8), r.Intn(6), 1+r.Intn(50)))
			if topo.Right(next) {
				x, w, v = next, append(w, float64(1+r.Intn(20))), append(v, float64(1+r.Intn(20)))
			}
		}
		for h := range 3 {
			x.Hosts = append(x.Hosts, api.Host{At: r.Intn(x.Switches), Port: 6})
			if !topo.Right(x) {
				x.Hosts = x.Hosts[:h]
				break
			}
		}
		old, _ := short.Routes(x, w)
		now, e := short.Routes(x, v)
		at, miss, lead := r.Intn(1000), r.Intn(100), r.Intn(100)
		p, e2 := plan.Make(x, old, now, at, miss, lead)
		if e != api.OK || e2 != api.OK {
			continue
		}
		plans++
		if p.From != at+lead+1 || p.To != p.Rounds[len(p.Rounds)-1].At+miss || p.Rounds[0].At != at+lead+miss+plan.Life(x)+1 || p.Life != plan.Life(x) || p.Miss != miss {
			t.Fatal(x, p)
		}
		routes := level.Done(old, nil, 0, nil)
		for k, round := range p.Rounds {
			if k > 0 && (round.At-miss-(p.Rounds[k-1].At+miss) <= p.Life || round.At != p.Rounds[k-1].At+plan.Gap(x, miss) || round.No <= p.Rounds[k-1].No) {
				t.Fatal(x, p)
			}
			if !slices.IsSorted(round.Sws) {
				t.Fatal(x, p)
			}
			for _, part := range plan.Parts(p, k) {
				if len(part.Mods) == 0 {
					t.Fatal(x, p)
				}
				for _, m := range part.Mods { // no move occurs twice, and each sets the new port
					h := m.R.M.Val[api.Dst]
					if routes[part.Sw][h] == now[part.Sw][h] {
						t.Fatal(x, p, part)
					}
					routes[part.Sw][h] = m.R.Acts[0].V
				}
			}
		}
		if !route.Same(routes, now) {
			t.Fatal(x, p, routes, now)
		}
	}
	if plans < 100 {
		t.Error(plans)
	}
}
