package fabric_test

import (
	"math"
	"slices"
	"testing"

	"turnout/api"
	"turnout/channel"
	"turnout/ctl"
	"turnout/fabric"
	"turnout/frame"
	"turnout/proto"
	"turnout/route"
	"turnout/table"
	"turnout/weigh"
	"turnout/wire"
)

func link(a, pa, b, pb, least, most int) api.Link {
	return api.Link{A: a, PortA: pa, B: b, PortB: pb, Least: least, Most: most}
}

// chain has three switches in a row, with two links between the first ones, and hosts 0 and 1 at the ends. The sets of weights choose one of the two links.
func chain() api.Config {
	return api.Config{
		T:       api.Topo{Switches: 3, Links: []api.Link{link(0, 1, 1, 0, 2, 5), link(0, 2, 1, 3, 1, 4), link(1, 1, 2, 0, 3, 3)}, Hosts: []api.Host{{At: 0, Port: 7}, {At: 2, Port: 7}}},
		Weights: [][]uint64{weigh.Bits([]float64{1, 2, 1}), weigh.Bits([]float64{2, 1, 1})},
		Starts:  []int{5, -7, 100}, Rate: 100, Room: 8, Wide: 50, Lead: 40, Margin: 10, Retry: 20,
	}
}

// lab is a network of which the events are checked one after the other.
type lab struct {
	t    *testing.T
	x    *fabric.Net
	seen int
}

func newLab(t *testing.T, c api.Config) *lab {
	t.Helper()
	x, e := fabric.New(c)
	if e != api.OK || x == nil {
		t.Fatal(e)
	}
	return &lab{t: t, x: x}
}

func (l *lab) do(kind, i, n int, e api.Errno) {
	l.t.Helper()
	if got := l.x.Do(fabric.Step{Kind: kind, I: i, N: n}); got != e {
		l.t.Fatalf("step %d %d %d: %d; want %d", kind, i, n, got, e)
	}
}

// tells checks the events since the last check; they are at the present unless they have another time.
func (l *lab) tells(want ...api.Event) {
	l.t.Helper()
	for i := range want {
		if want[i].Real == 0 {
			want[i].Real = l.x.Real()
		}
	}
	if got := l.x.Events()[l.seen:]; !slices.Equal(got, want) {
		l.t.Fatalf("events %v; want %v", got, want)
	}
	l.seen = len(l.x.Events())
}

// flies checks the flights.
func (l *lab) flies(want ...channel.Flight) {
	l.t.Helper()
	if got := l.x.Control(); !slices.Equal(got, want) {
		l.t.Fatalf("flights %v; want %v", got, want)
	}
}

func flight(m api.Message, up bool) channel.Flight {
	return channel.Flight{Sw: m.Sw, Up: up, S: frame.Pack(proto.Code(m))}
}

// deliverAll delivers until there are no more flights.
func (l *lab) deliverAll() {
	l.t.Helper()
	for len(l.x.Control()) > 0 {
		l.do(fabric.Deliver, 0, 0, api.OK)
	}
}

func came(id, sw, port int) api.Event {
	return api.Event{Kind: api.Came, U: id, Sw: sw, X: port}
}

func gone(id, sw, h int) api.Event { return api.Event{Kind: api.Gone, U: id, Sw: sw, X: h} }

func dropped(id, sw, why int) api.Event {
	return api.Event{Kind: api.Dropped, U: id, Sw: sw, X: why}
}

func injected(id, sw, from, to int) api.Event {
	return api.Event{Kind: api.Injected, U: id, Sw: sw, X: from, Y: to}
}

func TestNew(t *testing.T) { // 38.1
	bad := chain()
	bad.Retry = 0
	for _, c := range []api.Config{bad, {}} {
		if x, e := fabric.New(c); x != nil || e != api.ErrArg {
			t.Error(x, e)
		}
	}
	l := newLab(t, chain())
	if l.x.Real() != 0 || l.x.Ctl().Phase() != ctl.Idle || len(l.x.Control()) != 0 || len(l.x.Ways()) != 0 {
		t.Error("initially")
	}
	l.tells()
	routes, _ := ctl.Check(chain())
	for sw, start := range []int{5, -7, 100} {
		if a := l.x.Agent(sw); !a.Up() || a.U() != 0 || !table.Same(a.Table(), route.Table(routes[0], sw)) || l.x.Clock(sw) != start {
			t.Error(sw)
		}
	}
	for _, sw := range []int{-1, 3, math.MaxInt, math.MinInt} {
		if l.x.Agent(sw) != nil || l.x.Clock(sw) != 0 {
			t.Error(sw)
		}
	}
}

func TestConfigurationIsCopied(t *testing.T) { // 38.1 with R4
	c := chain()
	l := newLab(t, c)
	c.T.Links[0].Most, c.T.Links[0].PortA, c.T.Hosts[0].At, c.Starts[0], c.Weights[0][0] = 999, 4, 2, 77, 0
	l.do(fabric.Inject, 0, 1, api.OK)
	l.tells(injected(0, 0, 0, 1), came(0, 0, 7))
	if w := l.x.Ways(); len(w) != 1 || w[0].Late != 5 || l.x.Clock(0) != 5 {
		t.Error(w)
	}
	l.x.Events()[0].U = 9
	l.x.Ways()[0].Id = 9
	if l.x.Events()[0].U != 0 || l.x.Ways()[0].Id != 0 {
		t.Error("results share memory with the network")
	}
}

func TestOneSwitch(t *testing.T) { // 38
	l := newLab(t, api.Config{T: api.Topo{Switches: 1, Hosts: []api.Host{{At: 0, Port: 2}}}, Weights: [][]uint64{nil}, Starts: []int{0}, Room: 1, Retry: 1})
	l.do(fabric.Inject, 0, 0, api.OK)
	l.tells(injected(0, 0, 0, 0), came(0, 0, 2), gone(0, 0, 0))
}

func TestTick(t *testing.T) { // 38.2
	l := newLab(t, chain())
	l.do(fabric.Tick, 0, 10, api.OK)
	l.do(fabric.Inject, 0, 1, api.OK) // arrives at switch 1 at 15, and at switch 2 at 18
	l.tells(injected(0, 0, 0, 1), came(0, 0, 7))
	l.do(fabric.Tick, 0, 4, api.OK)
	l.tells()
	if w := l.x.Ways(); !slices.Equal(w, []wire.Way{{Id: 0, Sw: 1, Port: 0, P: api.Packet{0, 1, 0, 0}, Early: 12, Late: 15}}) {
		t.Error(w)
	}
	l.do(fabric.Tick, 0, 0, api.OK)
	l.tells()
	l.do(fabric.Tick, 0, 1, api.OK)
	l.tells(came(0, 1, 0))
	l.do(fabric.Inject, 1, 0, api.OK) // arrives at switch 1 at 18, and at switch 0 at 23
	l.tells(injected(1, 2, 1, 0), came(1, 2, 7))
	l.do(fabric.Tick, 0, 100, api.OK)
	at := func(real int, e api.Event) api.Event { e.Real = real; return e }
	l.tells(at(18, came(0, 2, 0)), at(18, gone(0, 2, 1)), at(18, came(1, 1, 1)), at(23, came(1, 0, 1)), at(23, gone(1, 0, 0)))
	if l.x.Real() != 115 || len(l.x.Ways()) != 0 {
		t.Error(l.x.Real())
	}
	for _, n := range []int{-1, 10001, math.MaxInt, math.MinInt} {
		l.do(fabric.Tick, 0, n, api.ErrArg)
	}
	if l.x.Real() != 115 {
		t.Error(l.x.Real())
	}
	l.do(fabric.Tick, 9, 10000, api.OK)
	if l.x.Real() != 10115 {
		t.Error(l.x.Real())
	}
}

func TestTurn(t *testing.T) { // 38.2
	l := newLab(t, chain())
	l.do(fabric.Turn, 1, -100, api.OK)
	l.do(fabric.Turn, 2, 100, api.OK)
	for _, x := range [][3]int{{3, 0, int(api.ErrNone)}, {-1, 0, int(api.ErrNone)}, {0, 101, int(api.ErrArg)}, {0, -101, int(api.ErrArg)}} {
		l.do(fabric.Turn, x[0], x[1], api.Errno(x[2]))
	}
	l.do(fabric.Tick, 0, 1000, api.OK)
	if l.x.Clock(0) != 1005 || l.x.Clock(1) != 893 || l.x.Clock(2) != 1200 {
		t.Error(l.x.Clock(0), l.x.Clock(1), l.x.Clock(2))
	}
	l.tells()
}

func TestTimerAndDeliver(t *testing.T) { // 38.2
	l := newLab(t, chain())
	l.do(fabric.Tick, 0, 50, api.OK)
	l.do(fabric.Timer, 0, 0, api.OK)
	ask := func(sw int) channel.Flight {
		return flight(api.Message{Kind: api.TimeAsk, Sw: sw, T1: 50}, false)
	}
	tell := func(sw, t2 int) channel.Flight {
		return flight(api.Message{Kind: api.TimeTell, Sw: sw, T1: 50, T2: t2}, true)
	}
	l.flies(ask(0), ask(1), ask(2))
	l.do(fabric.Deliver, 0, 3, api.ErrNone)
	l.do(fabric.Deliver, 0, -1, api.ErrNone)
	l.do(fabric.Tick, 0, 2, api.OK)
	l.do(fabric.Deliver, 0, 1, api.OK)
	l.flies(ask(0), ask(2), tell(1, 45))
	l.do(fabric.Twice, 0, 2, api.OK)
	l.do(fabric.Twice, 0, 4, api.ErrNone)
	l.flies(ask(0), ask(2), tell(1, 45), tell(1, 45))
	l.do(fabric.Drop, 0, 0, api.OK)
	l.do(fabric.Drop, 0, 3, api.ErrNone)
	l.flies(ask(2), tell(1, 45), tell(1, 45))
	l.do(fabric.Deliver, 0, 1, api.OK)
	if e := l.x.Ctl().Estimate(1); !e.Known || e.At != 52 || e.S.Lo != -8 || e.S.Hi != -4 {
		t.Error(e) // from 45-52 to 45-50, and 1 for drift
	}
	if e := l.x.Ctl().Estimate(2); e.Known {
		t.Error(e)
	}
	// Neither an agent nor a controller that is down answers.
	l.do(fabric.Crash, 2, 0, api.OK)
	l.do(fabric.Deliver, 0, 0, api.OK)
	l.do(fabric.Crash, -1, 0, api.OK)
	l.do(fabric.Deliver, 0, 0, api.OK)
	l.flies()
	l.tells(api.Event{Kind: api.Crashed, Sw: 2}, api.Event{Kind: api.Crashed, Sw: -1})
	// The time is asked of those that are up.
	l.do(fabric.Start, -1, 0, api.OK)
	l.do(fabric.Timer, 0, 0, api.OK)
	if f := l.x.Control(); len(f) != 2 || f[0].Sw != 0 || f[1].Sw != 1 {
		t.Error(f)
	}
}

func TestChannelIsFull(t *testing.T) { // 38.2
	l := newLab(t, chain())
	l.do(fabric.Timer, 0, 0, api.OK)
	for range 253 {
		l.do(fabric.Twice, 0, 0, api.OK)
	}
	l.do(fabric.Twice, 0, 0, api.ErrFull)
	l.do(fabric.Tick, 0, 20, api.OK)
	l.do(fabric.Timer, 0, 0, api.OK) // its messages are lost
	if len(l.x.Control()) != 256 {
		t.Error(len(l.x.Control()))
	}
}

func TestInjectAndHop(t *testing.T) { // 38.2
	l := newLab(t, chain())
	for _, x := range [][2]int{{2, 0}, {0, 2}, {-1, 0}, {0, -1}, {math.MaxInt, math.MinInt}} {
		l.do(fabric.Inject, x[0], x[1], api.ErrNone)
	}
	l.tells()
	l.do(fabric.Inject, 0, 0, api.OK)
	l.tells(injected(0, 0, 0, 0), came(0, 0, 7), gone(0, 0, 0))
	l.do(fabric.Inject, 0, 1, api.OK)
	l.tells(injected(1, 0, 0, 1), came(1, 0, 7))
	l.do(fabric.Inject, 1, 0, api.OK)
	l.tells(injected(2, 2, 1, 0), came(2, 2, 7))
	l.do(fabric.Tick, 0, 1, api.OK)
	l.do(fabric.Hop, 0, 2, api.ErrNone)
	l.do(fabric.Hop, 0, -1, api.ErrNone)
	l.do(fabric.Hop, 0, 0, api.ErrLate)
	l.do(fabric.Hop, 0, 1, api.ErrLate)
	l.tells()
	l.do(fabric.Tick, 0, 1, api.OK)
	l.do(fabric.Hop, 0, 0, api.OK)
	l.tells(came(1, 1, 0))
	if w := l.x.Ways(); len(w) != 2 || w[0].Id != 2 || w[1] != (wire.Way{Id: 1, Sw: 2, Port: 0, P: api.Packet{0, 1, 0, 0}, Early: 5, Late: 5}) {
		t.Error(w)
	}
	l.do(fabric.Tick, 0, 1, api.OK) // packet 2 arrives at switch 1
	l.tells(came(2, 1, 1))
	l.do(fabric.Hop, 0, 1, api.ErrLate)
}

func TestDropped(t *testing.T) { // 38.2
	l := newLab(t, chain())
	l.do(fabric.Crash, 1, 0, api.OK)
	l.do(fabric.Inject, 0, 1, api.OK)
	l.tells(api.Event{Kind: api.Crashed, Sw: 1}, injected(0, 0, 0, 1), came(0, 0, 7))
	l.do(fabric.Tick, 0, 5, api.OK)
	l.tells(came(0, 1, 0), dropped(0, 1, 0))
}

func TestDroppedForLackOfSpaceOrPeer(t *testing.T) { // 38.2
	l := newLab(t, chain())
	for range 256 {
		l.do(fabric.Inject, 0, 1, api.OK)
	}
	l.seen = len(l.x.Events())
	l.do(fabric.Inject, 0, 1, api.OK)
	l.tells(injected(256, 0, 0, 1), came(256, 0, 7), dropped(256, 0, 1))
	l.do(fabric.Inject, 1, 1, api.OK)
	l.tells(injected(257, 2, 1, 1), came(257, 2, 7), gone(257, 2, 1))
	// A modification that sends nowhere, heard by the agent itself.
	l = newLab(t, chain())
	a := l.x.Agent(0)
	l.do(fabric.Tick, 0, 1, api.OK)
	mod := route.Table(api.Routes{{7, 5}}, 0)[1]
	both := mod
	both.Acts = append(both.Acts, api.Act{Kind: api.Out, V: 1}, api.Act{Kind: api.Set, F: api.Tag, V: 9}, api.Act{Kind: api.Out, V: 7}, api.Act{Kind: api.Out, V: 2})
	a.Hear(0, api.Message{Kind: api.Stage, U: 3, Rd: 4, Mods: []api.Mod{{Kind: api.ModifyStrict, R: both}}})
	a.Hear(0, api.Message{Kind: api.Arm, U: 3, Rd: 4, T2: l.x.Clock(0)})
	l.do(fabric.Inject, 0, 1, api.OK)
	l.tells(injected(0, 0, 0, 1), came(0, 0, 7), api.Event{Kind: api.Flipped, U: 3, Sw: 0, X: 4}, dropped(0, 0, 2), gone(0, 0, 0))
	if w := l.x.Ways(); len(w) != 2 || w[0].P != (api.Packet{0, 1, 0, 0}) || w[1].P != (api.Packet{0, 1, 0, 9}) || w[1].Port != 3 {
		t.Error(w)
	}
}

func TestCrashAndStart(t *testing.T) { // 38.2
	l := newLab(t, chain())
	for _, sw := range []int{3, -2, math.MaxInt, math.MinInt} {
		l.do(fabric.Crash, sw, 0, api.ErrNone)
		l.do(fabric.Start, sw, 0, api.ErrNone)
	}
	for _, i := range []int{0, 2, -1} {
		l.do(fabric.Start, i, 0, api.ErrState)
		l.do(fabric.Tick, 0, 3, api.OK)
		l.do(fabric.Crash, i, 0, api.OK)
		l.tells(api.Event{Kind: api.Crashed, Sw: i})
		l.do(fabric.Crash, i, 0, api.ErrState)
		l.do(fabric.Tick, 0, 3, api.OK)
		if i >= 0 && (l.x.Agent(i).Up() || l.x.Agent(i).Life() != 1) || i < 0 && l.x.Ctl().Phase() != ctl.Down {
			t.Error(i)
		}
		l.do(fabric.Start, i, 0, api.OK)
		l.tells(api.Event{Kind: api.Started, Sw: i})
		if i >= 0 && !l.x.Agent(i).Up() || i < 0 && l.x.Ctl().Phase() != ctl.Idle {
			t.Error(i)
		}
	}
	l.do(fabric.Crash, -1, 0, api.OK)
	l.do(fabric.Update, 0, 1, api.ErrState)
	l.do(fabric.Timer, 0, 0, api.OK)
	l.flies()
}

func TestUnknownKinds(t *testing.T) { // 38.2
	l := newLab(t, chain())
	for _, kind := range []int{0, -1, 12, math.MaxInt, math.MinInt} {
		l.do(kind, 0, 0, api.ErrKind)
	}
	l.tells()
	l.flies()
	for i, kind := range []int{fabric.Tick, fabric.Turn, fabric.Timer, fabric.Update, fabric.Deliver, fabric.Drop, fabric.Twice, fabric.Inject, fabric.Hop, fabric.Crash, fabric.Start} {
		if kind != i+1 {
			t.Error(i, kind)
		}
	}
}

// accepted is a lab in which an update of the first set of routes to the second one was just accepted: switch 1 has the first round, and switch 0 the second one.
func accepted(t *testing.T) *lab {
	t.Helper()
	l := newLab(t, chain())
	l.do(fabric.Update, 0, 1, api.ErrLate)
	l.do(fabric.Update, 0, 2, api.ErrArg)
	l.do(fabric.Update, 0, 0, api.ErrNone)
	l.tells()
	l.do(fabric.Timer, 0, 0, api.OK)
	l.deliverAll()
	l.do(fabric.Tick, 0, 5, api.OK)
	l.do(fabric.Update, 0, 1, api.OK)
	p := l.x.Ctl().Plan()
	l.tells(api.Event{Kind: api.Accepted, U: 1, X: p.From, Y: p.To})
	if f := l.x.Control(); len(f) != 2 || f[0].Up || f[1].Up || f[0].Sw != 1 || f[1].Sw != 0 || len(p.Rounds) != 2 {
		t.Fatal(f)
	}
	return l
}

func TestUpdate(t *testing.T) { // 38.2, 38.3
	l := accepted(t)
	p := l.x.Ctl().Plan()
	l.deliverAll()
	l.do(fabric.Update, 0, 1, api.ErrState)
	if l.x.Ctl().Phase() != ctl.Waiting || !slices.Equal(l.x.Agent(1).Armed(), []int{0}) || !slices.Equal(l.x.Agent(0).Armed(), []int{1}) {
		t.Fatal(l.x.Ctl().Phase())
	}
	l.tells()
	l.do(fabric.Tick, 0, p.Rounds[0].At-l.x.Real()-1, api.OK)
	l.do(fabric.Inject, 1, 0, api.OK)
	l.tells(injected(0, 2, 1, 0), came(0, 2, 7))
	l.do(fabric.Tick, 0, 3, api.OK) // it arrives when switch 1 has flipped
	l.tells(came(0, 1, 1), api.Event{Kind: api.Flipped, U: 1, Sw: 1, X: 0})
	if w := l.x.Ways(); len(w) != 1 || w[0].Port != 2 {
		t.Error(w)
	}
	l.do(fabric.Tick, 0, p.To-l.x.Real(), api.OK)
	l.seen = len(l.x.Events())
	l.do(fabric.Timer, 0, 0, api.OK)
	l.deliverAll()
	l.tells(api.Event{Kind: api.Flipped, U: 1, Sw: 0, X: 1}) // the agent heard a TimeAsk
	l.do(fabric.Tick, 0, 1, api.OK)
	l.do(fabric.Timer, 0, 0, api.OK)
	l.deliverAll()
	l.tells(api.Event{Kind: api.Committed, U: 1, X: 1})
	routes, _ := ctl.Check(chain())
	for sw := range 3 {
		if !table.Same(l.x.Agent(sw).Table(), route.Table(routes[1], sw)) {
			t.Error(sw)
		}
	}
}

func TestUndoing(t *testing.T) { // 38.2, 38.3
	l := accepted(t)
	p := l.x.Ctl().Plan()
	l.deliverAll()
	l.do(fabric.Tick, 0, p.To+1-l.x.Real(), api.OK)
	l.do(fabric.Crash, 0, 0, api.OK) // it forgets its round
	l.do(fabric.Start, 0, 0, api.OK)
	l.seen = len(l.x.Events())
	l.do(fabric.Timer, 0, 0, api.OK)
	l.deliverAll()
	l.tells(api.Event{Kind: api.Flipped, U: 1, Sw: 1, X: 0})
	if l.x.Ctl().Phase() != ctl.Undoing {
		t.Fatal(l.x.Ctl().Phase())
	}
	l.do(fabric.Tick, 0, p.Life+1, api.OK)
	l.do(fabric.Timer, 0, 0, api.OK)
	l.deliverAll()
	l.tells(api.Event{Kind: api.Undone, U: 1, Sw: 1, X: 0})
	l.do(fabric.Tick, 0, p.Life+1, api.OK)
	l.do(fabric.Timer, 0, 0, api.OK)
	l.tells(api.Event{Kind: api.Cancelled, U: 1, X: 0})
}

func TestFailedRounds(t *testing.T) { // 38.3
	l := accepted(t)
	l.deliverAll()
	a := l.x.Agent(1) // another update, heard by the agent itself, and a round that cannot be applied any more
	mod := route.Table(api.Routes{nil, {1, 1}}, 1)[0]
	a.Hear(0, api.Message{Kind: api.Stage, Sw: 1, U: 2, Rd: 5, Mods: []api.Mod{{Kind: api.DeleteStrict, R: mod}}})
	a.Hear(0, api.Message{Kind: api.Stage, Sw: 1, U: 2, Rd: 6, Mods: []api.Mod{{Kind: api.DeleteStrict, R: mod}}})
	a.Hear(-99, api.Message{Kind: api.Arm, Sw: 1, U: 2, Rd: 5, T2: 0})
	a.Hear(-99, api.Message{Kind: api.Arm, Sw: 1, U: 2, Rd: 6, T2: 0})
	l.do(fabric.Tick, 0, 30, api.OK)
	l.do(fabric.Timer, 0, 0, api.OK)
	l.seen = len(l.x.Events())
	l.deliverAll()
	l.tells(api.Event{Kind: api.Flipped, U: 2, Sw: 1, X: 5}, api.Event{Kind: api.Failed, U: 2, Sw: 1, X: 6})
}

func TestCalm(t *testing.T) { // 38.4
	a, b := newLab(t, chain()), newLab(t, chain())
	for _, l := range []*lab{a, b} {
		l.do(fabric.Timer, 0, 0, api.OK)
		l.do(fabric.Inject, 0, 1, api.OK)
		l.do(fabric.Tick, 0, 2, api.OK)
	}
	a.x.Calm(0)
	a.x.Calm(-5)
	if len(a.x.Control()) != 3 || a.x.Real() != 2 {
		t.Error("no rounds")
	}
	a.x.Calm(30)
	for range 30 {
		b.do(fabric.Timer, 0, 0, api.OK)
		b.deliverAll()
		b.do(fabric.Tick, 0, 1, api.OK)
	}
	if !slices.Equal(a.x.Events(), b.x.Events()) || a.x.Real() != 32 || len(a.x.Control()) != 0 || a.x.Ctl().Estimate(1) != b.x.Ctl().Estimate(1) || !a.x.Ctl().Estimate(1).Known {
		t.Error(a.x.Events(), b.x.Events())
	}
}

func TestNil(t *testing.T) { // 38.1
	var x *fabric.Net
	x.Calm(3)
	if x.Real() != 0 || x.Ctl() != nil || x.Agent(0) != nil || x.Clock(0) != 0 || len(x.Events()) != 0 || len(x.Control()) != 0 || len(x.Ways()) != 0 || x.Do(fabric.Step{Kind: fabric.Tick}) != api.ErrNil || x.Do(fabric.Step{}) != api.ErrNil {
		t.Error("nil network")
	}
}
