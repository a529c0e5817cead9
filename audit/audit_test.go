package audit_test

import (
	"math"
	"math/rand"
	"slices"
	"testing"

	"turnout/api"
	"turnout/audit"
	"turnout/ctl"
	"turnout/fabric"
	"turnout/topo"
	"turnout/trace"
	"turnout/weigh"
)

func link(a, pa, b, pb int) api.Link {
	return api.Link{A: a, PortA: pa, B: b, PortB: pb, Least: 1, Most: 4}
}

// triangle has three switches, each connected with the others, hosts at the switches 0 and 2, and two routes: direct ones and those over switch 1.
func triangle() (api.Topo, []api.Routes) {
	t := api.Topo{Switches: 3, Links: []api.Link{link(0, 0, 1, 0), link(1, 1, 2, 1), link(0, 2, 2, 2)}, Hosts: []api.Host{{At: 0, Port: 7}, {At: 2, Port: 7}}}
	return t, []api.Routes{{{7, 2}, {0, 1}, {2, 7}}, {{7, 0}, {0, 1}, {1, 7}}}
}

func accepted(at, u, from, to int) api.Event {
	return api.Event{Kind: api.Accepted, Real: at, U: u, X: from, Y: to}
}

func committed(at, u, k int) api.Event {
	return api.Event{Kind: api.Committed, Real: at, U: u, X: k}
}

func cancelled(at, u int) api.Event {
	return api.Event{Kind: api.Cancelled, Real: at, U: u, X: 3}
}

func injected(at, id, from, to int) api.Event {
	return api.Event{Kind: api.Injected, Real: at, U: id, X: from, Y: to}
}

func came(id, sw int) api.Event { return api.Event{Kind: api.Came, Real: 5, U: id, Sw: sw} }

func gone(id, host int) api.Event { return api.Event{Kind: api.Gone, Real: 6, U: id, X: host} }

func dropped(id int) api.Event { return api.Event{Kind: api.Dropped, Real: 6, U: id} }

func TestGuards(t *testing.T) { // 42.1
	const open = 1 << 50
	for i, x := range []struct {
		l    []api.Event
		want []audit.Guard
	}{
		{nil, nil}, {[]api.Event{accepted(1, 1, 10, 20)}, []audit.Guard{{1, 10, open}}}, {[]api.Event{accepted(1, 1, 10, 20), committed(25, 1, 3)}, []audit.Guard{{1, 10, 20}}}, {[]api.Event{accepted(1, 1, 10, 20), cancelled(77, 1)}, []audit.Guard{{1, 10, 77}}},
		{[]api.Event{accepted(1, 1, 10, 20), cancelled(77, 1), committed(88, 1, 2)}, []audit.Guard{{1, 10, 77}}}, {[]api.Event{accepted(1, 1, 10, 20), committed(88, 1, 2), cancelled(77, 1)}, []audit.Guard{{1, 10, 20}}}, {[]api.Event{committed(5, 1, 2), cancelled(6, 1), accepted(7, 1, 10, 20)}, []audit.Guard{{1, 10, open}}},
		{[]api.Event{accepted(1, 1, 10, 20), accepted(2, 2, 30, 40), committed(50, 2, 0), cancelled(60, 3), injected(3, 1, 0, 0)}, []audit.Guard{{1, 10, open}, {2, 30, 40}}},
		{[]api.Event{accepted(1, 1, 10, 20), cancelled(30, 1), accepted(2, 1, 40, 50), committed(60, 1, 0)}, []audit.Guard{{1, 10, 30}, {1, 40, 50}}}, {[]api.Event{accepted(1, 1, 10, 20), accepted(1, 1, 11, 21), committed(60, 1, 0)}, []audit.Guard{{1, 10, 20}, {1, 11, 21}}},
	} {
		if got := audit.Guards(x.l); !slices.Equal(got, x.want) {
			t.Errorf("%d: %v; want %v", i, got, x.want)
		}
	}
}

func TestGuarded(t *testing.T) { // 42.1
	l := []api.Event{accepted(1, 1, 10, 20), committed(25, 1, 3), accepted(26, 2, 30, 99), cancelled(40, 2), accepted(41, 3, 50, 60)}
	for at, want := range map[int]bool{9: false, 10: true, 15: true, 20: true, 21: false, 29: false, 30: true, 40: true, 41: false, 49: false, 50: true, 1 << 50: true, 1<<50 + 1: false, math.MinInt: false, math.MaxInt: false} {
		if audit.Guarded(l, at) != want {
			t.Error(at)
		}
	}
	if audit.Guarded(nil, 0) {
		t.Error("no guards")
	}
}

func TestInForce(t *testing.T) { // 42.1
	l := []api.Event{accepted(1, 1, 10, 20), committed(21, 1, 3), accepted(26, 2, 30, 99), cancelled(40, 2), accepted(41, 3, 50, 60), committed(61, 3, 1), committed(62, 9, 7)}
	for at, want := range map[int]int{0: 0, 20: 0, 21: 3, 45: 3, 60: 3, 61: 1, 1 << 60: 1, -5: 0} {
		if k := audit.InForce(l, at); k != want {
			t.Errorf("InForce(%d) = %d", at, k)
		}
	}
	// The last Committed event in the list counts, and the guard need not be of an earlier event.
	l = []api.Event{committed(5, 1, 4), accepted(6, 2, 0, 30), committed(31, 2, 2), committed(32, 3, 6), accepted(7, 3, 0, 10), cancelled(12, 3)}
	for at, want := range map[int]int{12: 0, 13: 6, 30: 6, 31: 6} {
		if k := audit.InForce(l, at); k != want {
			t.Errorf("InForce(%d) = %d", at, k)
		}
	}
	if audit.InForce(nil, 5) != 0 {
		t.Error("no updates")
	}
}

func TestFindings(t *testing.T) { // 42.2
	x, routes := triangle()
	for i, y := range []struct {
		l    []api.Event
		want []audit.Finding
	}{
		{nil, nil}, {[]api.Event{injected(0, 0, 0, 1), came(0, 0), came(0, 2), gone(0, 1)}, nil}, {[]api.Event{injected(0, 0, 0, 1), came(0, 0), came(0, 2)}, nil}, {[]api.Event{injected(0, 0, 0, 1), came(0, 0)}, nil}, {[]api.Event{injected(0, 0, 0, 1)}, nil}, {[]api.Event{injected(0, 0, 0, 1), gone(0, 1)}, nil},
		{[]api.Event{injected(0, 0, 0, 1), came(0, 0), came(0, 1), came(0, 2), gone(0, 1)}, []audit.Finding{{audit.Other, 0}}}, {[]api.Event{injected(0, 0, 0, 1), came(0, 0), came(0, 1)}, []audit.Finding{{audit.Other, 0}}}, {[]api.Event{injected(0, 0, 0, 1), came(0, 1), came(0, 2), gone(0, 1)}, nil},
		{[]api.Event{injected(0, 7, 0, 1), came(7, 0), dropped(7)}, []audit.Finding{{audit.Lost, 7}, {audit.Other, 7}}}, {[]api.Event{injected(0, 7, 0, 1), came(7, 0), came(7, 2), dropped(7)}, []audit.Finding{{audit.Lost, 7}}}, {[]api.Event{injected(0, 7, 0, 1), dropped(7)}, []audit.Finding{{audit.Lost, 7}}},
		{[]api.Event{injected(0, 0, 0, 1), came(0, 0), gone(0, 1)}, []audit.Finding{{audit.Other, 0}}}, {[]api.Event{injected(0, 0, 0, 1), came(0, 0), came(0, 2), gone(0, 0)}, []audit.Finding{{audit.Astray, 0}}}, {[]api.Event{injected(0, 0, 0, 1), gone(0, 0)}, []audit.Finding{{audit.Astray, 0}}},
		{[]api.Event{injected(0, 0, 0, 1), came(0, 0), came(0, 2), came(0, 0), gone(0, 5)}, []audit.Finding{{audit.Twice, 0}, {audit.Astray, 0}, {audit.Other, 0}}}, {[]api.Event{injected(0, 0, 0, 1), came(0, 0), came(0, 2), came(0, 1)}, []audit.Finding{{audit.Other, 0}}},
		{[]api.Event{injected(0, 0, 0, 9), came(0, 0)}, []audit.Finding{{audit.Other, 0}}}, {[]api.Event{injected(0, 0, 0, 1), came(0, 5)}, []audit.Finding{{audit.Other, 0}}}, {[]api.Event{injected(0, 0, 0, -1), came(0, 0)}, []audit.Finding{{audit.Other, 0}}},
		{[]api.Event{injected(0, 3, 0, 1), injected(1, 2, 0, 1), came(2, 0), dropped(2), came(3, 0), came(3, 0), dropped(3)}, []audit.Finding{{audit.Twice, 3}, {audit.Lost, 3}, {audit.Other, 3}, {audit.Lost, 2}, {audit.Other, 2}}},
		// Within a guard any way is allowed, but nothing else; afterwards the new routes are in force.
		{[]api.Event{accepted(0, 1, 10, 20), injected(10, 0, 0, 1), came(0, 0), came(0, 1), came(0, 2), gone(0, 1), committed(21, 1, 1)}, nil}, {[]api.Event{accepted(0, 1, 10, 20), injected(20, 0, 0, 1), came(0, 0), came(0, 0), dropped(0), committed(21, 1, 1)}, []audit.Finding{{audit.Twice, 0}, {audit.Lost, 0}}},
		{[]api.Event{accepted(0, 1, 10, 20), injected(9, 0, 0, 1), came(0, 0), came(0, 1), came(0, 2), gone(0, 1), committed(21, 1, 1)}, []audit.Finding{{audit.Other, 0}}}, {[]api.Event{accepted(0, 1, 10, 20), injected(21, 0, 0, 1), came(0, 0), came(0, 1), came(0, 2), gone(0, 1), committed(21, 1, 1)}, nil},
		{[]api.Event{accepted(0, 1, 10, 20), injected(21, 0, 0, 1), came(0, 0), came(0, 2), gone(0, 1), committed(21, 1, 1)}, []audit.Finding{{audit.Other, 0}}}, {[]api.Event{accepted(0, 1, 10, 20), injected(31, 0, 0, 1), came(0, 0), came(0, 2), gone(0, 1), cancelled(30, 1)}, nil},
		{[]api.Event{accepted(0, 1, 10, 20), injected(25, 0, 0, 1), came(0, 0), came(0, 2), gone(0, 1), committed(21, 1, 2)}, []audit.Finding{{audit.Other, 0}}}, {[]api.Event{accepted(0, 1, 10, 20), injected(25, 0, 0, 1), came(0, 0), committed(21, 1, -1)}, []audit.Finding{{audit.Other, 0}}}, {[]api.Event{accepted(0, 1, 10, 20), injected(25, 0, 0, 1), committed(21, 1, -1)}, nil},
	} {
		if got := audit.Check(x, routes, y.l); !slices.Equal(got, y.want) {
			t.Errorf("%d: %v; want %v", i, got, y.want)
		}
	}
	one := []api.Event{injected(0, 0, 0, 1), came(0, 0), came(0, 2), gone(0, 1)}
	for i, got := range [][]audit.Finding{audit.Check(x, nil, one), audit.Check(api.Topo{}, routes, one), audit.Check(x, []api.Routes{{{7, 1}, {0, 1}, {2, 7}}}, one), audit.Check(x, []api.Routes{{{7}, {0}, {2}}}, one)} {
		if !slices.Equal(got, []audit.Finding{{audit.Other, 0}}) {
			t.Error(i, got)
		}
	}
}

func TestName(t *testing.T) { // 42.2
	for kind, want := range []string{"?", "twice", "lost", "astray", "other", "?"} {
		if audit.Name(kind) != want {
			t.Error(kind)
		}
	}
	if audit.Name(-1) != "?" || audit.Name(math.MaxInt) != "?" || audit.Twice != 1 || audit.Other != 4 {
		t.Error("Name")
	}
}

func TestCrashes(t *testing.T) { // 42.3
	crash := func(sw int) []api.Event { return []api.Event{{Kind: api.Started}, {Kind: api.Crashed, Sw: sw}} }
	if audit.Crashes(nil) || audit.Crashes(crash(-1)) || !audit.Crashes(crash(0)) || !audit.Crashes(append(crash(-1), crash(7)...)) || audit.Crashes([]api.Event{{Kind: api.Started, Sw: 3}}) {
		t.Error("Crashes")
	}
}

func TestOtherPacketsDoNotMatter(t *testing.T) { // 42.4
	x, routes := triangle()
	r := rand.New(rand.NewSource(62))
	updates := []api.Event{accepted(0, 1, 10, 20), committed(21, 1, 1)}
	for range 300 {
		l := slices.Clone(updates)
		if got := audit.Check(x, routes, l); len(got) != 0 {
			t.Fatal(got)
		}
		for id := range 4 {
			l = append(l, injected(r.Intn(40), id, r.Intn(2), r.Intn(2)))
		}
		for range r.Intn(20) {
			l = append(l, []api.Event{came(r.Intn(4), r.Intn(3)), gone(r.Intn(4), r.Intn(2)), dropped(r.Intn(4))}[r.Intn(3)])
		}
		before := audit.Check(x, routes, l)
		l = append(l, injected(r.Intn(40), 9, 0, 1), came(9, 1), came(9, 1), dropped(9))
		after := audit.Check(x, routes, l)
		if n := len(before); len(after) < n+2 || !slices.Equal(after[:n], before) || after[n].U != 9 {
			t.Fatal(l, before, after)
		}
	}
}

// some is a valid configuration with a network that is connected in several ways.
func some(r *rand.Rand) api.Config {
	for {
		c := api.Config{Rate: r.Intn(100), Room: 8, Wide: 20 + r.Intn(60), Lead: r.Intn(60), Margin: r.Intn(10), Retry: 3 + r.Intn(10)}
		c.T.Switches = 2 + r.Intn(4)
		for range 9 {
			next := c.T
			next.Links = append(slices.Clone(c.T.Links), link(r.Intn(5), r.Intn(6), r.Intn(5), r.Intn(6)))
			if topo.Right(next) {
				c.T = next
			}
		}
		c.T.Hosts = []api.Host{{At: 0, Port: 7}, {At: c.T.Switches - 1, Port: 6}}
		for range 3 {
			var w []float64
			for range c.T.Links {
				w = append(w, float64(1+r.Intn(9)))
			}
			c.Weights = append(c.Weights, weigh.Bits(w))
		}
		for range c.T.Switches {
			c.Starts = append(c.Starts, r.Intn(200)-100)
		}
		if _, e := ctl.Check(c); e == api.OK {
			return c
		}
	}
}

// play performs random steps in which messages are lost and the controller crashes, but no switch does.
func play(r *rand.Rand, x *fabric.Net, c api.Config, n int) {
	do := func(kind, i, n int) api.Errno {
		return x.Do(fabric.Step{Kind: kind, I: i, N: n})
	}
	for range n {
		switch k := r.Intn(100); {
		case k < 25:
			do(fabric.Timer, 0, 0)
		case k < 40:
			do(fabric.Tick, 0, r.Intn(8))
		case k < 45:
			do(fabric.Update, 0, r.Intn(3))
		case k < 60:
			do(fabric.Inject, r.Intn(2), r.Intn(2))
		case k < 68:
			do(fabric.Hop, 0, r.Intn(3))
		case k < 71:
			do(fabric.Turn, r.Intn(c.T.Switches), r.Intn(2*c.Rate+1)-c.Rate)
		case k < 74:
			do(fabric.Twice, 0, r.Intn(4))
		case k < 76:
			do(fabric.Drop, 0, r.Intn(4))
		case k < 77:
			if do(fabric.Crash, -1, 0) != api.OK {
				do(fabric.Start, -1, 0)
			}
		default:
			for range 1 + r.Intn(6) {
				do(fabric.Deliver, 0, r.Intn(3))
			}
		}
	}
}

func TestPacketsAreSafe(t *testing.T) { // T8
	ends := map[int]int{}
	for seed := range 500 {
		r := rand.New(rand.NewSource(int64(5000 + seed)))
		c := some(r)
		x, _ := fabric.New(c)
		routes, _ := ctl.Check(c)
		x.Calm(2)
		for range 3 {
			play(r, x, c, 120)
			if seed%2 == 0 {
				x.Do(fabric.Step{Kind: fabric.Start, I: -1})
				x.Calm(r.Intn(200))
			}
		}
		if found := audit.Check(c.T, routes, x.Events()); len(found) != 0 {
			t.Fatal(seed, found, c)
		}
		for _, tr := range trace.Of(x.Events()) {
			ends[tr.End]++
		}
		for _, e := range x.Events() {
			if e.Kind == api.Committed || e.Kind == api.Cancelled {
				ends[e.Kind]++
			}
		}
	}
	if ends[api.Gone] < 5000 || ends[api.Dropped] != 0 || ends[api.Committed] < 50 || ends[api.Cancelled] < 50 {
		t.Error(ends)
	}
}
