package fabric_test

import (
	"math/rand"
	"slices"
	"testing"

	"turnout/agent"
	"turnout/api"
	"turnout/clock"
	"turnout/ctl"
	"turnout/fabric"
	"turnout/journal"
	"turnout/level"
	"turnout/plan"
	"turnout/route"
	"turnout/table"
	"turnout/topo"
	"turnout/weigh"
)

// some is a valid configuration of a connected network with several sets of weights.
func some(r *rand.Rand) api.Config {
	for {
		c := api.Config{Rate: r.Intn(3) * r.Intn(100), Room: 8, Wide: 20 + r.Intn(60), Lead: 20 + r.Intn(60), Margin: r.Intn(10), Retry: 3 + r.Intn(10)}
		c.T.Switches = 2 + r.Intn(4)
		for range 9 {
			next := c.T
			least := 1 + r.Intn(4)
			next.Links = append(slices.Clone(c.T.Links), link(r.Intn(5), r.Intn(6), r.Intn(5), r.Intn(6), least, least+r.Intn(4)))
			if topo.Right(next) {
				c.T = next
			}
		}
		c.T.Hosts = []api.Host{{At: 0, Port: 7}, {At: c.T.Switches - 1, Port: 6}, {At: r.Intn(c.T.Switches), Port: 5}}
		c.T.Hosts[2].Port = 7 - c.T.Hosts[2].At%2*3
		for range 3 {
			var w []float64
			for range c.T.Links {
				w = append(w, float64(1+r.Intn(9)))
			}
			c.Weights = append(c.Weights, weigh.Bits(w))
		}
		for range c.T.Switches {
			c.Starts = append(c.Starts, r.Intn(200)-100)
		}
		if _, e := ctl.Check(c); e == api.OK {
			return c
		}
	}
}

// world is a network under test, with what its update must look like.
type world struct {
	t        *testing.T
	c        api.Config
	x        *fabric.Net
	routes   []api.Routes
	crashing bool // switches crash, too
	seen     int  // how many events were checked
	ends     map[int]int
	kinds    map[int]int
}

func newWorld(t *testing.T, c api.Config) *world {
	t.Helper()
	x, e := fabric.New(c)
	routes, e2 := ctl.Check(c)
	if e != api.OK || e2 != api.OK {
		t.Fatal(e, e2)
	}
	return &world{t: t, c: c, x: x, routes: routes, ends: map[int]int{}, kinds: map[int]int{}}
}

func (w *world) do(kind, i, n int) api.Errno {
	e := w.x.Do(fabric.Step{Kind: kind, I: i, N: n})
	w.check()
	return e
}

// check checks the promises that hold after every step.
func (w *world) check() {
	w.t.Helper()
	events := w.x.Events()
	for _, e := range events[w.seen:] {
		w.kinds[e.Kind]++
		switch e.Kind {
		case api.Cancelled:
			w.ends[e.U]++
			w.checkCancelled(e)
		case api.Committed:
			w.ends[e.U]++
		}
		if (e.Kind == api.Cancelled || e.Kind == api.Committed) && w.ends[e.U] != 1 { // T6
			w.t.Fatal("an update ends twice", e)
		}
	}
	w.seen = len(events)
	if s, n, e := journal.Replay(w.x.Ctl().Journal()); e != api.OK || n != len(w.x.Ctl().Journal()) || s != w.x.Ctl().State() {
		w.t.Fatal("the journal is not allowed", w.x.Ctl().Journal())
	}
	if !w.crashing {
		w.checkPrefixes()
	}
}

// checkCancelled checks T3 for the update that has just been cancelled.
func (w *world) checkCancelled(e api.Event) {
	w.t.Helper()
	for sw := range w.c.T.Switches {
		if e.X>>sw&1 == 1 {
			continue
		}
		a := w.x.Agent(sw)
		if !a.Up() || !table.Same(a.Table(), route.Table(w.routes[w.x.Ctl().State().Now], sw)) || a.U() == e.U && len(a.Staged())+len(a.Armed())+len(a.Done()) > 0 {
			w.t.Fatal("a switch is not listed", sw, e, a)
		}
	}
}

// checkPrefixes checks T5: each table is the old one with the first rounds of the update, complete.
func (w *world) checkPrefixes() {
	w.t.Helper()
	s := w.x.Ctl().State()
	old := w.routes[s.Now]
	var moves []level.Move
	if s.Open {
		moves, _ = level.Moves(w.c.T, old, w.routes[s.Target])
	}
	for sw := range w.c.T.Switches {
		now := w.x.Agent(sw).Table()
		if !slices.ContainsFunc(append(level.Rounds(moves), 99), func(round int) bool {
			return table.Same(now, route.Table(level.Done(old, moves, round, nil), sw))
		}) {
			w.t.Fatal("a table is no prefix", sw, now, old, moves)
		}
	}
}

func (w *world) deliverAll() {
	for len(w.x.Control()) > 0 {
		w.do(fabric.Deliver, 0, 0)
	}
}

// calm is Calm, with the checks after each step.
func (w *world) calm(n int) {
	for range n {
		w.do(fabric.Timer, 0, 0)
		w.deliverAll()
		w.do(fabric.Tick, 0, 1)
	}
}

// checkTables checks that all tables are those of the routes in force.
func (w *world) checkTables() {
	w.t.Helper()
	for sw := range w.c.T.Switches {
		if !table.Same(w.x.Agent(sw).Table(), route.Table(w.routes[w.x.Ctl().State().Now], sw)) {
			w.t.Fatal("the table is not that of the routes in force", sw, w.x.Ctl().State())
		}
	}
}

func TestCommit(t *testing.T) { // T4
	r := rand.New(rand.NewSource(57))
	committed := 0
	for range 300 {
		c := some(r)
		c.Margin = 0
		w := newWorld(t, c)
		w.calm(1 + r.Intn(5))
		for u := 1; u <= 3; u++ {
			for sw := range c.T.Switches {
				w.do(fabric.Turn, sw, r.Intn(2*c.Rate+1)-c.Rate)
			}
			w.do(fabric.Timer, 0, 0)
			w.deliverAll()
			k := r.Intn(3)
			if e := w.do(fabric.Update, 0, k); e != api.OK {
				if e != api.ErrNone && e != api.ErrLate {
					t.Fatal(e)
				}
				u = 4
				continue
			}
			p := w.x.Ctl().Plan()
			w.deliverAll()
			for w.x.Ctl().State().Open && w.x.Real() < p.To+10 {
				w.calm(1)
			}
			committed++
			if l := w.x.Events(); !slices.Contains(l, api.Event{Kind: api.Committed, Real: p.To + 1, U: u, X: k}) {
				t.Fatal("not committed at the first tick after the guard", p.To, l)
			}
			if w.x.Ctl().State().Now != k {
				t.Fatal(w.x.Ctl().State())
			}
			w.checkTables()
		}
	}
	if committed < 80 {
		t.Error(committed)
	}
}

// misuse performs random steps; hostile ones lose messages, and let nodes crash.
func (w *world) misuse(r *rand.Rand, n, hostile int) {
	for range n {
		switch k := r.Intn(100); {
		case k < 30:
			w.do(fabric.Timer, 0, 0)
		case k < 50:
			w.do(fabric.Tick, 0, r.Intn(12))
		case k < 55:
			w.do(fabric.Update, 0, r.Intn(3))
		case k < 60:
			w.do(fabric.Inject, r.Intn(3), r.Intn(3))
		case k < 64:
			w.do(fabric.Hop, 0, r.Intn(3))
		case k < 67:
			w.do(fabric.Turn, r.Intn(w.c.T.Switches), r.Intn(2*w.c.Rate+1)-w.c.Rate)
		case k < 72:
			w.do(fabric.Twice, 0, r.Intn(4))
		case k < 72+hostile:
			w.do(fabric.Drop, 0, r.Intn(4))
		case k < 72+2*hostile && r.Intn(4) == 0:
			w.crash(r)
		default:
			for range 1 + r.Intn(6) {
				w.do(fabric.Deliver, 0, r.Intn(3))
			}
		}
	}
}

// crash lets a node go down for a while, or come up.
func (w *world) crash(r *rand.Rand) {
	i := -1
	if w.crashing && r.Intn(2) == 0 {
		i = r.Intn(w.c.T.Switches)
	}
	if w.do(fabric.Crash, i, 0) != api.OK {
		w.do(fabric.Start, i, 0)
	}
}

// recover lets all nodes come up, and everything go well until all updates have ended.
func (w *world) recover() {
	for i := -1; i < w.c.T.Switches; i++ {
		w.do(fabric.Start, i, 0)
	}
	for range 1500 {
		if w.x.Ctl().Phase() == ctl.Idle && w.x.Ctl().State().Out == 0 {
			break
		}
		w.calm(1)
	}
	w.calm(50)
}

func TestFaults(t *testing.T) { // T3, T5, T6, T7, 38.5
	kinds := map[int]int{}
	for seed := range 400 {
		r := rand.New(rand.NewSource(int64(1000 + seed)))
		w := newWorld(t, some(r))
		w.crashing = seed%2 == 0
		w.calm(2)
		w.misuse(r, 250, 1+seed%8)
		w.recover()
		if s := w.x.Ctl().State(); w.x.Ctl().Phase() != ctl.Idle || s.Open || s.Out != 0 { // T7
			t.Fatal("an update does not end", w.x.Ctl().Phase(), s, w.c)
		}
		w.checkTables()
		w.checkFates()
		w.checkSpeed()
		for kind, n := range w.kinds {
			kinds[kind] += n
		}
	}
	for kind := api.Injected; kind <= api.Started; kind++ {
		if kinds[kind] < 15 && kind != api.Failed {
			t.Error("rarely tried", kind, kinds)
		}
	}
}

// checkFates checks T6: each update ended once, as the journal says, and at one time.
func (w *world) checkFates() {
	w.t.Helper()
	l := w.x.Ctl().Journal()
	begun := map[int]int{}
	for _, e := range w.x.Events() {
		switch e.Kind {
		case api.Accepted:
			begun[e.U]++
		case api.Committed:
			if journal.Fate(l, e.U) != 2 {
				w.t.Fatal(e, l)
			}
		case api.Cancelled:
			if journal.Fate(l, e.U) != 3 {
				w.t.Fatal(e, l)
			}
		}
	}
	for u, n := range begun {
		if n != 1 || w.ends[u] != 1 {
			w.t.Fatal(u, n, w.ends[u], l)
		}
	}
	for u := range w.ends {
		if begun[u] != 1 {
			w.t.Fatal(u, l)
		}
	}
}

// checkSpeed checks that packets need the time of their links, and no clock drifts too fast.
func (w *world) checkSpeed() {
	w.t.Helper()
	last := map[int]api.Event{}
	for _, e := range w.x.Events() {
		if e.Kind != api.Came {
			continue
		}
		before, ok := last[e.U]
		last[e.U] = e
		if !ok {
			continue
		}
		from, _, link, linked := topo.Peer(w.c.T, e.Sw, e.X)
		if delay := e.Real - before.Real; !linked || from != before.Sw || delay < w.c.T.Links[link].Least || delay > w.c.T.Links[link].Most {
			w.t.Fatal(before, e)
		}
	}
	for sw, start := range w.c.Starts {
		if d := w.x.Clock(sw) - w.x.Real() - start; max(d, -d) > clock.Drift(w.x.Real(), w.c.Rate) {
			w.t.Fatal(sw, d)
		}
	}
}

func TestRoundsKeepTheirDistance(t *testing.T) { // 38.5 with 24.3: flips happen within Miss of the times of the plan
	r := rand.New(rand.NewSource(58))
	flips := 0
	for range 60 {
		w := newWorld(t, some(r))
		w.calm(3)
		if w.do(fabric.Update, 0, 1+r.Intn(2)) != api.OK {
			continue
		}
		p := w.x.Ctl().Plan()
		w.deliverAll()
		w.calm(p.To - w.x.Real() + 1)
		for _, e := range w.x.Events() {
			if e.Kind != api.Flipped {
				continue
			}
			flips++
			// An agent executes a round as soon as it hears of something, so at most Retry later.
			if at := p.Rounds[e.X].At; e.Real <= at-p.Miss || e.Real >= at+p.Miss+w.c.Retry {
				t.Fatal(e, p)
			}
		}
		w.checkApart(p)
	}
	if flips < 30 {
		t.Error(flips)
	}
}

// checkApart checks that all flips of a round come before those of the next one.
func (w *world) checkApart(p plan.Plan) {
	w.t.Helper()
	last := -1
	for _, e := range w.x.Events() {
		if e.Kind == api.Flipped && e.X < last {
			w.t.Fatal(w.x.Events(), p)
		}
		if e.Kind == api.Flipped {
			last = e.X
		}
	}
}

// TestStepsOfAgentsAreKnown guards the order of the kinds that become events.
func TestStepsOfAgentsAreKnown(t *testing.T) { // 38.3
	if agent.Flipped != 1 || agent.Undone != 2 || agent.Failed != 3 {
		t.Error("kinds of steps")
	}
}
