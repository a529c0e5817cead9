package ctl_test

import (
	"math"
	"math/rand"
	"slices"
	"testing"

	"turnout/api"
	"turnout/ctl"
	"turnout/journal"
	"turnout/level"
	"turnout/plan"
	"turnout/proto"
	"turnout/route"
	"turnout/short"
	"turnout/skew"
	"turnout/span"
	"turnout/weigh"
)

const all = 1<<5 - 1

// ring has five switches: four in a ring (port 1 leads to the next one, port 0 to the previous one) with a host at the first one, and one more behind the first one. With the weights 0, switches lead down to the host; with the weights 1, up and over the last one.
func ring() api.Config {
	c := api.Config{T: api.Topo{Switches: 5, Hosts: []api.Host{{At: 0, Port: 7}}}, Starts: []int{0, 1, 2, 3, 4}, Rate: 10, Room: 8, Wide: 20, Lead: 100, Margin: 30, Retry: 15}
	for i := range 4 {
		c.T.Links = append(c.T.Links, api.Link{A: i, PortA: 1, B: (i + 1) % 4, PortB: 0, Least: 1, Most: 2})
	}
	c.T.Links = append(c.T.Links, api.Link{A: 0, PortA: 5, B: 4, PortB: 5, Least: 1, Most: 2})
	c.Weights = [][]uint64{weigh.Bits([]float64{1, 1, 1, 9, 1}), weigh.Bits([]float64{9, 1, 1, 1, 1}), weigh.Bits([]float64{1, 1, 9, 1, 1})}
	return c
}

// In the ring: Life is 10, Miss 42, and the gap 95; an update that is accepted at 1000 has its rounds at 1153, 1248 and 1343 for the switches 3, 2 and 1, and the guard from 1101 to 1385.
const (
	begun  = 1000
	first  = 1153
	second = 1248
	third  = 1343
	from   = 1101
	to     = 1385
	life   = 10
)

// desk is a controller with what it kept, and the time.
type desk struct {
	t        *testing.T
	x        *ctl.Ctl
	now, up  int
	messages []api.Message
	events   []api.Event
}

func newDesk(t *testing.T, c api.Config) *desk {
	t.Helper()
	x, e := ctl.New(c)
	if e != api.OK || x == nil {
		t.Fatal(e)
	}
	return &desk{t: t, x: x, up: all}
}

// known is a desk at a time at which all clocks are known well; the clock of switch i is 10*i ahead.
func known(t *testing.T, now int) *desk {
	t.Helper()
	d := newDesk(t, ring())
	d.now = now
	d.learn()
	return d
}

func (d *desk) learn() {
	for sw := range 5 {
		d.hear(api.Message{Kind: api.TimeTell, Sw: sw, T1: d.now, T2: d.now + 10*sw})
	}
}

func (d *desk) flush() {
	m, e := d.x.Flush()
	d.messages, d.events = append(d.messages, m...), append(d.events, e...)
}

func (d *desk) hear(m api.Message) {
	d.x.Hear(d.now, m, d.up)
	d.flush()
}

// timer calls Timer, and drops the TimeAsks that it sends.
func (d *desk) timer(now int) {
	d.now = now
	d.x.Timer(now, d.up)
	d.flush()
	d.messages = slices.DeleteFunc(d.messages, func(m api.Message) bool { return m.Kind == api.TimeAsk })
}

func (d *desk) accept(k int, e api.Errno) {
	d.t.Helper()
	if got := d.x.Accept(d.now, k, d.up); got != e {
		d.t.Fatalf("Accept = %d; want %d", got, e)
	}
	d.flush()
}

// sends checks the messages that were sent since the last check.
func (d *desk) sends(want ...api.Message) {
	d.t.Helper()
	if !slices.EqualFunc(d.messages, want, proto.Same) {
		d.t.Fatalf("messages %v; want %v", d.messages, want)
	}
	d.messages = nil
}

// tells checks the events since the last check.
func (d *desk) tells(want ...api.Event) {
	d.t.Helper()
	if !slices.Equal(d.events, want) {
		d.t.Fatalf("events %v; want %v", d.events, want)
	}
	d.events = nil
}

// is checks the phase and the last records.
func (d *desk) is(phase int, last ...journal.Rec) {
	d.t.Helper()
	l := d.x.Journal()
	if d.x.Phase() != phase || len(l) < len(last) || !slices.Equal(l[len(l)-len(last):], last) {
		d.t.Fatalf("phase %d, journal %v; want %d, %v", d.x.Phase(), l, phase, last)
	}
	if s, n, e := journal.Replay(l); s != d.x.State() || n != len(l) || e != api.OK {
		d.t.Fatal(s, d.x.State(), n, e)
	}
}

func rec(kind, a, b int) journal.Rec { return journal.Rec{Kind: kind, U: 1, A: a, B: b} }

func mod(port int) []api.Mod {
	l := level.Mods([]level.Move{{Port: port}}, 0, 0)
	return l
}

func stage(rd, sw int) api.Message {
	return api.Message{Kind: api.Stage, Sw: sw, U: 1, Rd: rd, Mods: mod(1)}
}

func arm(rd, sw, at int) api.Message {
	return api.Message{Kind: api.Arm, Sw: sw, U: 1, Rd: rd, T2: at}
}

func undo(rd, sw int) api.Message { return api.Message{Kind: api.Undo, Sw: sw, U: 1, Rd: rd} }

func check(sw, bits int) api.Message { return api.Message{Kind: api.Check, Sw: sw, U: 1, Code: bits} }

func ack(of, rd, sw int) api.Message {
	return api.Message{Kind: api.Ack, Sw: sw, U: 1, Rd: rd, Of: of, Life: 3}
}

func nack(of, rd, sw int) api.Message {
	return api.Message{Kind: api.Nack, Sw: sw, U: 1, Rd: rd, Of: of, Code: int(api.ErrNone)}
}

// staging is a desk at which an update to set 1 has just been accepted.
func staging(t *testing.T) *desk {
	t.Helper()
	d := known(t, begun)
	d.accept(1, api.OK)
	d.sends(stage(0, 3), stage(1, 2), stage(2, 1))
	d.tells(api.Event{Kind: api.Accepted, Real: begun, U: 1, X: from, Y: to})
	d.is(ctl.Staging, rec(journal.Begin, 1, begun))
	return d
}

// arming is a desk at which everything is staged.
func arming(t *testing.T) *desk {
	t.Helper()
	d := staging(t)
	d.hear(ack(api.Stage, 0, 3))
	d.hear(ack(api.Stage, 2, 1))
	d.is(ctl.Staging, rec(journal.Begin, 1, begun))
	d.hear(ack(api.Stage, 1, 2))
	d.sends(arm(0, 3, first+30))
	d.is(ctl.Arming, rec(journal.Begin, 1, begun), rec(journal.Arm, 0, 0))
	return d
}

// waiting is a desk at which everything is armed.
func waiting(t *testing.T) *desk {
	t.Helper()
	d := arming(t)
	d.hear(ack(api.Arm, 0, 3))
	d.sends(arm(1, 2, second+20))
	d.is(ctl.Arming, rec(journal.Arm, 0, 0), rec(journal.Arm, 1, 0))
	d.hear(ack(api.Arm, 1, 2))
	d.sends(arm(2, 1, third+10))
	d.hear(ack(api.Arm, 2, 1))
	d.sends()
	d.tells()
	d.is(ctl.Waiting, rec(journal.Arm, 2, 0), rec(journal.Sure, 0, 0))
	return d
}

// checking is a desk at which the switches are asked whether everything is done.
func checking(t *testing.T) *desk {
	t.Helper()
	d := waiting(t)
	d.timer(to)
	d.sends()
	d.is(ctl.Waiting)
	d.timer(to + 1)
	d.sends(check(1, 4), check(2, 2), check(3, 1))
	d.is(ctl.Checking, rec(journal.Sure, 0, 0))
	return d
}

func TestCheckOfConfigurations(t *testing.T) { // 37.1
	c := ring()
	routes, e := ctl.Check(c)
	if e != api.OK || len(routes) != 3 {
		t.Fatal(routes, e)
	}
	for k, r := range routes {
		if want, _ := short.Routes(c.T, weigh.Of(c.Weights[k])); !route.Same(r, want) {
			t.Error(k, r)
		}
	}
	for i, x := range []struct {
		change func(c *api.Config)
		ok     bool
	}{
		{func(c *api.Config) { c.T.Links[0].Most = 0 }, false}, {func(c *api.Config) { c.T.Links = c.T.Links[:4]; c.Weights = [][]uint64{c.Weights[0][:4]} }, false}, {func(c *api.Config) { c.T.Hosts = nil }, true}, {func(c *api.Config) {
			c.T.Hosts = nil
			c.T.Links = c.T.Links[:4]
			c.Weights = [][]uint64{c.Weights[0][:4]}
		}, false}, {func(c *api.Config) { c.Weights = c.Weights[:1] }, true}, {func(c *api.Config) { c.Weights = nil }, false},
		{func(c *api.Config) { c.Weights = slices.Repeat(c.Weights[:1], 16) }, true}, {func(c *api.Config) { c.Weights = slices.Repeat(c.Weights[:1], 17) }, false}, {func(c *api.Config) { c.Weights[2] = c.Weights[2][:4] }, false}, {func(c *api.Config) { c.Weights[1] = weigh.Bits([]float64{1, 1, 1, 1, math.Inf(1)}) }, false},
		{func(c *api.Config) { c.Weights[1] = weigh.Bits([]float64{1, 1, 1, 1, -1}) }, false}, {func(c *api.Config) { c.Weights[1] = weigh.Bits([]float64{1, 1, math.Inf(1), 1, 1}) }, true}, {func(c *api.Config) { c.Weights[1] = weigh.Bits([]float64{1, 1, math.NaN(), 1, 1}) }, false},
		{func(c *api.Config) { c.Starts = c.Starts[:4] }, false}, {func(c *api.Config) { c.Starts = append(c.Starts, 0) }, false}, {func(c *api.Config) { c.Starts[0] = 1 << 20; c.Starts[1] = -1 << 20 }, true}, {func(c *api.Config) { c.Starts[0] = 1<<20 + 1 }, false}, {func(c *api.Config) { c.Starts[4] = -1<<20 - 1 }, false},
		{func(c *api.Config) { c.Rate = 0 }, true}, {func(c *api.Config) { c.Rate = 500 }, true}, {func(c *api.Config) { c.Rate = 501 }, false}, {func(c *api.Config) { c.Rate = -1 }, false}, {func(c *api.Config) { c.Room = 1 }, true}, {func(c *api.Config) { c.Room = 0 }, false}, {func(c *api.Config) { c.Room = 64 }, true}, {func(c *api.Config) { c.Room = 65 }, false},
		{func(c *api.Config) { c.Wide = 0; c.Lead = 0; c.Margin = 0; c.Retry = 1 }, true}, {func(c *api.Config) { c.Wide = 1 << 16; c.Lead = 1 << 16; c.Margin = 1 << 16; c.Retry = 1 << 16 }, true}, {func(c *api.Config) { c.Wide = -1 }, false}, {func(c *api.Config) { c.Wide = 1<<16 + 1 }, false}, {func(c *api.Config) { c.Lead = -1 }, false},
		{func(c *api.Config) { c.Lead = 1<<16 + 1 }, false}, {func(c *api.Config) { c.Margin = -1 }, false}, {func(c *api.Config) { c.Margin = 1<<16 + 1 }, false}, {func(c *api.Config) { c.Retry = 0 }, false}, {func(c *api.Config) { c.Retry = 1<<16 + 1 }, false}, {func(c *api.Config) { *c = api.Config{} }, false},
	} {
		c := ring()
		x.change(&c)
		routes, e := ctl.Check(c)
		y, e2 := ctl.New(c)
		if (e == api.OK) != x.ok || e != e2 || !x.ok && (e != api.ErrArg || len(routes) != 0 || y != nil) || x.ok && (len(routes) != len(c.Weights) || y == nil) {
			t.Errorf("%d: %v, %d, %d", i, routes, e, e2)
		}
	}
}

func TestNew(t *testing.T) { // 37.1
	d := newDesk(t, ring())
	d.flush()
	d.sends()
	d.tells()
	d.is(ctl.Idle)
	if len(d.x.Journal()) != 0 || d.x.State() != (journal.State{}) || len(d.x.Plan().Rounds) != 0 || d.x.Estimate(0) != (skew.Estimate{}) {
		t.Error("initially")
	}
	for i, phase := range []int{ctl.Idle, ctl.Staging, ctl.Arming, ctl.Waiting, ctl.Checking, ctl.Undoing, ctl.Down} {
		if i != phase {
			t.Error(i, phase)
		}
	}
}

func TestConfigurationIsCopied(t *testing.T) { // 37.1 with R4
	c := ring()
	x, _ := ctl.New(c)
	c.T.Links[0].Most, c.T.Hosts[0].At, c.Weights[1][0] = 1000, 3, 0
	d := &desk{t: t, x: x, up: all, now: begun}
	d.learn()
	d.accept(1, api.OK)
	d.sends(stage(0, 3), stage(1, 2), stage(2, 1))
	p := d.x.Plan()
	if p.Rounds[0].At != first {
		t.Error(p)
	}
	p.Rounds[0].Sws[0], p.Moves[0].Sw, p.Rounds[1].At = 4, 4, 4
	d.x.Journal()[0].U = 7
	q := d.x.Plan()
	if q.Rounds[0].Sws[0] != 3 || q.Moves[0].Sw != 3 || q.Rounds[1].At != second {
		t.Error(q)
	}
	d.is(ctl.Staging, rec(journal.Begin, 1, begun))
}

func TestMessagesAreCopies(t *testing.T) { // 37.1 with R4
	d := known(t, begun)
	d.accept(1, api.OK)
	d.messages[0].Mods[0].R.Acts[0].V = 6
	d.messages = nil
	d.timer(begun + 15)
	d.sends(stage(0, 3), stage(1, 2), stage(2, 1))
}

func TestAccept(t *testing.T) { // 37.2
	d := staging(t)
	c := ring()
	routes, _ := ctl.Check(c)
	want, _ := plan.Make(c.T, routes[0], routes[1], begun, 42, 100)
	if p := d.x.Plan(); p.From != want.From || p.To != want.To || p.Life != life || p.Miss != 42 || !slices.Equal(p.Moves, want.Moves) || len(p.Rounds) != 3 || p.Rounds[1].At != second {
		t.Error(p)
	}
	d.accept(1, api.ErrState)
	d.accept(99, api.ErrState)
	d.sends()
}

func TestAcceptErrors(t *testing.T) { // 37.2
	d := known(t, begun)
	for _, k := range []int{-1, 3, math.MaxInt, math.MinInt} {
		d.accept(k, api.ErrArg)
	}
	for _, now := range []int{-1, 1<<40 + 1} {
		if e := d.x.Accept(now, 1, all); e != api.ErrArg {
			t.Error(now, e)
		}
	}
	d.accept(0, api.ErrNone)
	if e := d.x.Accept(1<<40, 1, 0); e != api.ErrOver {
		t.Error(e)
	}
	d.up = all &^ 4
	d.accept(1, api.ErrState)
	d.accept(0, api.ErrNone)
	d.up = 2 | 4 | 8 // the participants
	d.accept(2, api.OK)
	d.messages, d.events = nil, nil
	// A half that is just small enough: the clock is known for 20 ticks more or less.
	for _, x := range []struct {
		ahead int // by how many ticks an exchange was late
		e     api.Errno
	}{{36, api.OK}, {38, api.ErrLate}} {
		c := ring()
		c.Rate = 0
		y, _ := ctl.New(c)
		d := &desk{t: t, x: y, up: all, now: begun}
		for sw := range 4 {
			d.hear(api.Message{Kind: api.TimeTell, Sw: sw, T1: begun - 4 - x.ahead, T2: begun})
		}
		d.accept(1, x.e)
	}
	d = newDesk(t, ring())
	d.now = begun
	d.accept(1, api.ErrLate)
	d.sends()
	d.tells()
	d.is(ctl.Idle)
	if len(d.x.Journal()) != 0 {
		t.Error(d.x.Journal())
	}
	d.learn()
	d.now = 4000 // the estimates are too old by now
	d.accept(1, api.ErrLate)
}

func TestOneSwitch(t *testing.T) { // 37
	c := api.Config{T: api.Topo{Switches: 1, Hosts: []api.Host{{At: 0, Port: 0}}}, Weights: [][]uint64{nil, nil}, Starts: []int{0}, Room: 1, Retry: 1}
	d := newDesk(t, c)
	d.accept(0, api.ErrNone)
	d.accept(1, api.ErrNone)
	d.accept(2, api.ErrArg)
}

func TestCommit(t *testing.T) { // 37.3, 37.4, 37.5
	d := checking(t)
	d.hear(ack(api.Check, 0, 2))
	d.hear(ack(api.Check, 0, 3))
	d.tells()
	d.is(ctl.Checking, rec(journal.Sure, 0, 0))
	d.now = to + 5
	d.hear(ack(api.Check, 0, 1))
	d.sends()
	d.tells(api.Event{Kind: api.Committed, Real: to + 5, U: 1, X: 1})
	d.is(ctl.Idle, rec(journal.Sure, 0, 0), rec(journal.Commit, 0, 0))
	if s := d.x.State(); s.Now != 1 || s.U != 1 || s.Open || len(d.x.Plan().Moves) != 0 {
		t.Error(s)
	}
	// The next update goes from the new routes.
	d.learn()
	d.accept(1, api.ErrNone)
	d.accept(0, api.OK)
	d.is(ctl.Staging, rec(journal.Commit, 0, 0), journal.Rec{Kind: journal.Begin, U: 2, A: 0, B: to + 5})
	if len(d.messages) != 3 || d.messages[0].Sw != 1 || d.messages[0].U != 2 || d.messages[0].Mods[0].R.Acts[0].V != 0 {
		t.Error(d.messages)
	}
}

func TestRoundsWithSeveralSwitches(t *testing.T) { // 37.2, 37.3
	c := api.Config{T: api.Topo{Switches: 3, Links: []api.Link{{A: 0, PortA: 0, B: 2, PortB: 0, Least: 1, Most: 1}, {A: 0, PortA: 1, B: 2, PortB: 1, Least: 1, Most: 1}, {A: 1, PortA: 0, B: 2, PortB: 2, Least: 1, Most: 1}, {A: 1, PortA: 1, B: 2, PortB: 3, Least: 1, Most: 1}}, Hosts: []api.Host{{At: 2, Port: 7}, {At: 0, Port: 7}}},
		Starts: []int{0, 0, 0}, Room: 8, Wide: 5, Retry: 1, Weights: [][]uint64{weigh.Bits([]float64{1, 2, 1, 2}), weigh.Bits([]float64{2, 1, 2, 1})}}
	d := newDesk(t, c)
	for sw := range 3 {
		d.hear(api.Message{Kind: api.TimeTell, Sw: sw})
	}
	d.accept(1, api.OK)
	want := [][3]int{{0, 0, 1}, {0, 1, 1}, {0, 2, 1}, {1, 1, 1}} // round, switch, modifications
	for i, m := range d.messages {
		if i >= len(want) || m.Kind != api.Stage || [3]int{m.Rd, m.Sw, len(m.Mods)} != want[i] {
			t.Fatal(d.messages)
		}
	}
	d.messages = nil
	for _, x := range [][2]int{{1, 1}, {0, 2}, {0, 0}, {0, 1}} {
		d.sends()
		d.hear(ack(api.Stage, x[0], x[1]))
	}
	p := d.x.Plan()
	d.sends(arm(0, 0, p.Rounds[0].At), arm(0, 1, p.Rounds[0].At), arm(0, 2, p.Rounds[0].At))
	d.hear(ack(api.Arm, 0, 1))
	d.hear(ack(api.Arm, 0, 2))
	d.sends()
	d.hear(ack(api.Arm, 0, 0))
	d.sends(arm(1, 1, p.Rounds[1].At))
	d.hear(ack(api.Arm, 1, 1))
	d.timer(p.To + 1)
	d.sends(check(0, 1), check(1, 3), check(2, 1))
	d.hear(nack(api.Check, 0, 2))
	d.sends(undo(1, 1))
	d.hear(ack(api.Undo, 1, 1))
	d.timer(p.To + 1 + p.Life + 1)
	d.sends(undo(0, 0), undo(0, 1), undo(0, 2))
}

func TestMessagesAreSentAgain(t *testing.T) { // 37.3, 37.4
	d := staging(t)
	d.hear(ack(api.Stage, 1, 2))
	d.timer(begun + 14)
	d.sends()
	d.timer(begun + 15)
	d.sends(stage(0, 3), stage(2, 1))
	d.timer(begun + 16)
	d.sends()
	d.hear(ack(api.Stage, 0, 3))
	d.timer(begun + 40)
	d.sends(stage(2, 1))
	d.timer(begun + 54)
	d.sends()
	d.hear(ack(api.Stage, 2, 1))
	d.sends(arm(0, 3, first+30))
	// Better estimates do not change the time of a message that is sent again.
	d.timer(begun + 60)
	d.hear(api.Message{Kind: api.TimeTell, Sw: 3, T1: begun + 58, T2: begun + 60 + 29})
	d.timer(begun + 69)
	d.sends(arm(0, 3, first+30))
	d = checking(t)
	d.hear(ack(api.Check, 0, 2))
	d.timer(to + 16)
	d.sends(check(1, 4), check(3, 1))
	d.timer(to + 30)
	d.sends()
}

func TestAnswersThatAreNotAwaited(t *testing.T) { // 37.5
	d := staging(t)
	ignored := func(l ...api.Message) {
		t.Helper()
		phase, n := d.x.Phase(), len(d.x.Journal())
		for _, m := range l {
			d.hear(m)
			if d.x.Phase() != phase || len(d.x.Journal()) != n || len(d.messages) != 0 || len(d.events) != 0 {
				t.Fatal(m, d.x.Phase(), d.messages)
			}
		}
	}
	with := func(m api.Message, change func(m *api.Message)) api.Message {
		change(&m)
		return m
	}
	other := func(m *api.Message) { m.U = 2 }
	ignored(ack(api.Stage, 0, 2), ack(api.Stage, 3, 1), ack(api.Arm, 0, 3), ack(api.Check, 0, 3), ack(api.Undo, 0, 3), ack(api.Undo, -1, 3), ack(api.Stage, -1, 3), with(ack(api.Stage, 0, 3), other), nack(api.Stage, 0, 2), nack(api.Arm, 0, 3), nack(api.Undo, 0, 3), with(nack(api.Stage, 0, 3), other),
		ack(api.Stage, 0, 7), nack(api.Stage, 0, 5), api.Message{}, with(ack(api.Stage, 0, 3), func(m *api.Message) { m.Code = 1 }), stage(0, 3), undo(0, 3), api.Message{Kind: api.TimeAsk, Sw: 3}, with(ack(api.Stage, 0, 3), func(m *api.Message) { m.Life = -1 }))
	d.hear(ack(api.Stage, 0, 3))
	ignored(ack(api.Stage, 0, 3), nack(api.Stage, 0, 3))
	d.hear(ack(api.Stage, 1, 2))
	d.hear(ack(api.Stage, 2, 1))
	d.sends(arm(0, 3, first+30))
	ignored(ack(api.Stage, 0, 3), ack(api.Arm, 1, 2), ack(api.Arm, 0, 2), ack(api.Arm, 1, 3), nack(api.Arm, 1, 2), nack(api.Stage, 2, 1), with(ack(api.Arm, 0, 3), other), nack(api.Check, 0, 3))
	d = waiting(t)
	ignored(ack(api.Arm, 2, 1), nack(api.Arm, 2, 1), nack(api.Stage, 2, 1), nack(api.Check, 0, 1), ack(api.Check, 0, 1), ack(api.Undo, -1, 1), nack(api.Undo, 2, 1))
	d = checking(t)
	ignored(ack(api.Check, 0, 4), ack(api.Arm, 0, 1), nack(api.Arm, 0, 3), ack(api.Undo, 0, 1), with(ack(api.Check, 0, 1), other), ack(api.Check, 0, 0))
	d.hear(nack(api.Check, 0, 1))
	d.sends(undo(2, 1))
	d.is(ctl.Undoing)
	ignored(nack(api.Undo, 2, 1), ack(api.Undo, 1, 1), ack(api.Undo, 2, 2), ack(api.Undo, -1, 1), ack(api.Check, 0, 1), ack(api.Stage, 2, 1), with(ack(api.Undo, 2, 1), other), nack(api.Check, 0, 2), ack(api.Undo, 1, 2))
	d.hear(ack(api.Undo, 2, 1))
	ignored(ack(api.Undo, 2, 1), ack(api.Undo, 1, 2), nack(api.Check, 0, 2)) // it rests
}

// undone checks that the update is being undone from its last round on.
func (d *desk) undone(last ...journal.Rec) {
	d.t.Helper()
	d.sends(undo(2, 1))
	d.tells()
	d.is(ctl.Undoing, append(last, rec(journal.Cancel, 0, 0))...)
}

func TestReasonsForUndoing(t *testing.T) { // 37.3, 37.4, 37.5
	for i, reason := range []func() *desk{
		func() *desk { d := staging(t); d.hear(nack(api.Stage, 1, 2)); return d },
		func() *desk { d := staging(t); d.timer(first - 30); return d },
		func() *desk { d := arming(t); d.hear(nack(api.Arm, 0, 3)); return d },
		func() *desk { d := arming(t); d.timer(first - 30); return d },
		func() *desk {
			d := arming(t)
			d.hear(ack(api.Arm, 0, 3))
			d.sends(arm(1, 2, second+20))
			d.timer(second - 30)
			return d
		},
		func() *desk { d := waiting(t); d.timer(first); d.up = all &^ 8; d.timer(first + 1); return d },
		func() *desk { d := checking(t); d.hear(nack(api.Check, 0, 3)); return d },
		func() *desk { d := checking(t); d.up = all &^ 4; d.timer(to + 2); return d },
	} {
		d := reason()
		l := d.x.Journal()
		if len(l) == 0 || l[len(l)-1] != rec(journal.Cancel, 0, 0) {
			t.Fatal(i, l)
		}
		d.undone()
	}
	// One tick before, nothing happens.
	d := staging(t)
	d.timer(first - 31)
	d.sends(stage(0, 3), stage(1, 2), stage(2, 1))
	d.is(ctl.Staging)
	d = arming(t)
	d.timer(first - 31)
	d.sends(arm(0, 3, first+30))
	d.is(ctl.Arming)
	d = arming(t)
	d.hear(ack(api.Arm, 0, 3))
	d.sends(arm(1, 2, second+20))
	d.timer(second - 31)
	d.sends(arm(1, 2, second+20))
	d.is(ctl.Arming)
	// A switch that takes no part does not matter.
	d = waiting(t)
	d.up = 2 | 4 | 8
	d.timer(begun + 20)
	d.sends()
	d.is(ctl.Waiting)
	// The last round is in time although the update is sure only after the first one.
	d.timer(first)
	d.is(ctl.Waiting)
}

func TestUndoingWhenAClockIsNotKnownWellEnough(t *testing.T) { // 37.3
	for _, acked := range []int{0, 1} { // how many rounds are armed before
		c := ring()
		c.Rate, c.Wide = 1, 1
		x, _ := ctl.New(c)
		d := &desk{t: t, x: x, up: all, now: begun}
		d.learn()
		d.accept(1, api.OK)
		d.events, d.messages = nil, nil
		if acked == 1 {
			d.stageAll()
			d.sends(arm(0, 3, d.x.Plan().Rounds[0].At+30))
		}
		// A slow answer adds nothing, but from now on drift is rounded up once more: the half becomes 2.
		d.now++
		for sw := range 4 {
			d.hear(api.Message{Kind: api.TimeTell, Sw: sw, T1: begun - 500, T2: d.now + 10*sw})
		}
		if acked == 0 {
			d.stageAll()
			d.undone(rec(journal.Begin, 1, begun))
		} else {
			d.hear(ack(api.Arm, 0, 3))
			d.undone(rec(journal.Begin, 1, begun), rec(journal.Arm, 0, 0))
		}
	}
}

func (d *desk) stageAll() {
	for k, sw := range []int{3, 2, 1} {
		d.hear(ack(api.Stage, k, sw))
	}
}

func TestUndoing(t *testing.T) { // 37.3, 37.4
	d := waiting(t)
	d.timer(first)
	d.up = all &^ (4 | 16) // switch 2, which has the second round, and switch 4, which takes no part
	d.timer(first + 1)
	d.undone(rec(journal.Sure, 0, 0))
	d.timer(first + 15)
	d.sends()
	d.timer(first + 16)
	d.sends(undo(2, 1))
	d.now = first + 20
	d.hear(ack(api.Undo, 2, 1))
	d.timer(first + 20 + life)
	d.sends()
	d.timer(first + 20 + life + 1) // the second round: its switch is skipped, so the controller rests at once
	d.sends()
	d.is(ctl.Undoing, rec(journal.Cancel, 0, 0))
	d.up = all // it is back, but skipped
	d.timer(first + 20 + 2*(life+1) - 1)
	d.sends()
	d.timer(first + 20 + 2*(life+1))
	d.sends(undo(0, 3))
	d.hear(ack(api.Undo, 0, 3))
	d.timer(d.now + life)
	d.is(ctl.Undoing)
	d.up = all &^ (8 | 16)
	d.timer(d.now + 1)
	d.sends()
	d.tells(api.Event{Kind: api.Cancelled, Real: d.now, U: 1, X: 4 | 8 | 16})
	d.is(ctl.Idle, rec(journal.Cancel, 0, 0), rec(journal.Close, 4|8|16, 0))
	if s := d.x.State(); s.Now != 0 || s.Out != 28 || len(d.x.Plan().Rounds) != 0 {
		t.Error(s)
	}
}

func TestSkippingWhileAnswersAreAwaited(t *testing.T) { // 37.4
	d := checking(t)
	d.hear(nack(api.Check, 0, 1))
	d.undone(rec(journal.Sure, 0, 0))
	now := d.now
	d.up = all &^ 2
	d.timer(now + 1) // switch 1 is skipped, and the controller rests
	d.sends()
	d.up = all
	d.hear(ack(api.Undo, 2, 1)) // too late
	d.timer(now + 1 + life)
	d.sends()
	d.timer(now + 2 + life)
	d.sends(undo(1, 2))
	d.hear(ack(api.Undo, 1, 2))
	d.timer(d.now + life + 1)
	d.sends(undo(0, 3))
	d.hear(ack(api.Undo, 0, 3))
	d.timer(d.now + life + 1)
	d.tells(api.Event{Kind: api.Cancelled, Real: d.now, U: 1, X: 2})
	d.is(ctl.Idle, rec(journal.Close, 2, 0))
	// The rest does not end twice, and not before it began.
	d = checking(t)
	d.up = 0
	d.timer(to + 2)
	d.sends()
	for _, step := range []int{life + 1, life + 1} {
		d.timer(d.now + step - 1)
		d.is(ctl.Undoing, rec(journal.Cancel, 0, 0))
		d.timer(d.now + 1)
		d.is(ctl.Undoing, rec(journal.Cancel, 0, 0))
	}
	d.timer(d.now + life + 1)
	d.sends()
	d.tells(api.Event{Kind: api.Cancelled, Real: d.now, U: 1, X: 31})
	d.is(ctl.Idle, rec(journal.Close, 31, 0))
}

// closed is a desk after an update of which switches are Out.
func closed(t *testing.T, out int) *desk {
	t.Helper()
	d := checking(t)
	d.up = all &^ out
	d.now = to + 2
	if out&(2|4|8) == 0 { // All participants can be reached, but one of them is not done.
		d.hear(nack(api.Check, 0, 1))
	}
	d.timer(to + 2)
	for d.x.Phase() == ctl.Undoing {
		for _, m := range slices.Clone(d.messages) {
			d.hear(ack(api.Undo, m.Rd, m.Sw))
		}
		d.messages = nil
		d.timer(d.now + life + 1)
	}
	d.events = nil
	d.is(ctl.Idle, rec(journal.Close, out, 0))
	return d
}

func TestReleasing(t *testing.T) { // 37.2, 37.4, 37.5
	d := closed(t, 2|4)
	d.sends()
	now := d.now
	d.up = all
	d.accept(1, api.ErrState)
	d.timer(now + 1)
	d.sends(undo(-1, 1), undo(-1, 2))
	d.timer(now + 15)
	d.sends()
	d.up = all &^ 2
	d.timer(now + 16)
	d.sends(undo(-1, 2))
	d.up = 1
	d.timer(now + 31) // nobody can be reached, but that counts
	d.sends()
	d.up = all
	d.timer(now + 45)
	d.sends()
	d.timer(now + 46)
	d.sends(undo(-1, 1), undo(-1, 2))
	for _, m := range []api.Message{ack(api.Undo, 0, 1), ack(api.Undo, -1, 3), nack(api.Undo, -1, 1), ack(api.Stage, -1, 1), ack(api.Undo, -1, 0), {Kind: api.Ack, Sw: 1, U: 2, Rd: -1, Of: api.Undo}} {
		d.hear(m)
	}
	d.tells()
	d.is(ctl.Idle, rec(journal.Close, 6, 0))
	d.hear(ack(api.Undo, -1, 2))
	d.tells(api.Event{Kind: api.Released, Real: now + 46, U: 1, Sw: 2})
	d.is(ctl.Idle, rec(journal.Release, 2, 0))
	d.hear(ack(api.Undo, -1, 2))
	d.tells()
	d.accept(1, api.ErrState)
	d.timer(now + 61)
	d.sends(undo(-1, 1))
	d.hear(ack(api.Undo, -1, 1))
	d.tells(api.Event{Kind: api.Released, Real: now + 61, U: 1, Sw: 1})
	d.timer(now + 100)
	d.sends()
	d.learn()
	d.accept(1, api.OK)
	d.is(ctl.Staging, rec(journal.Release, 1, 0), journal.Rec{Kind: journal.Begin, U: 2, A: 1, B: now + 100})
	if d.messages[0].U != 2 {
		t.Error(d.messages)
	}
}

func TestUndoingWaitsForEachAnswer(t *testing.T) { // 37.3, 37.4
	d := checking(t)
	d.hear(nack(api.Check, 0, 1))
	d.undone(rec(journal.Sure, 0, 0))
	d.hear(ack(api.Undo, 2, 1))
	d.timer(d.now + life + 1)
	d.sends(undo(1, 2))
	d.timer(d.now + 14)
	d.sends()
	d.timer(d.now + 1)
	d.sends(undo(1, 2)) // not the first round yet
	// Without an answer, the rest begins when the switch cannot be reached.
	d.up = all &^ 4
	d.timer(d.now + 1)
	d.timer(d.now + life)
	d.sends()
	d.timer(d.now + 1)
	d.sends(undo(0, 3))
	d.is(ctl.Undoing, rec(journal.Cancel, 0, 0))
}

func TestSweepOfTheFirstSwitch(t *testing.T) { // 37.4
	d := closed(t, 1)
	d.up = all
	d.timer(d.now + 1)
	d.sends(undo(-1, 0))
}

func TestSweepBeginsAgainAfterEachUpdate(t *testing.T) { // 37.4
	c := ring()
	c.Retry = 1000
	x, _ := ctl.New(c)
	d := &desk{t: t, x: x, now: begun}
	for u := 1; u <= 2; u++ {
		d.up = all
		d.learn()
		d.accept(1, api.OK)
		d.up = all &^ 2
		for d.x.Phase() != ctl.Idle {
			d.timer(d.now + life + 1)
			for _, m := range slices.Clone(d.messages) {
				if m.Kind == api.Undo {
					d.hear(api.Message{Kind: api.Ack, Sw: m.Sw, U: u, Rd: m.Rd, Of: api.Undo})
				}
			}
			d.messages = nil
		}
		d.up = all
		sweep := api.Message{Kind: api.Undo, Sw: 1, U: u, Rd: -1}
		d.timer(d.now + 1) // soon after the last one, but since then the phase became Idle
		d.sends(sweep)
		d.timer(d.now + 999)
		d.sends()
		d.timer(d.now + 1)
		d.sends(sweep)
		d.hear(api.Message{Kind: api.Ack, Sw: 1, U: u, Rd: -1, Of: api.Undo})
	}
}

func TestSweepBeginsAgainAfterStart(t *testing.T) { // 37.4
	d := closed(t, 2)
	d.up = all
	d.timer(d.now + 1)
	d.sends(undo(-1, 1))
	d.x.Crash()
	d.x.Start(d.now+1, all)
	d.timer(d.now + 1)
	d.sends(undo(-1, 1))
}

func TestTimeAsks(t *testing.T) { // 37.4
	d := newDesk(t, ring())
	ask := func(sw, now int) api.Message { return api.Message{Kind: api.TimeAsk, Sw: sw, T1: now} }
	timer := func(now, up int, want ...api.Message) {
		t.Helper()
		d.x.Timer(now, up)
		d.flush()
		d.sends(want...)
	}
	timer(5, 1|2|8, ask(0, 5), ask(1, 5), ask(3, 5))
	timer(10, all, ask(2, 10), ask(4, 10))
	timer(19, all)
	timer(20, all, ask(0, 20), ask(1, 20), ask(3, 20))
	timer(25, 4, ask(2, 25))
	timer(40, 0)
	timer(41, all, ask(0, 41), ask(1, 41), ask(2, 41), ask(3, 41), ask(4, 41))
	d.x.Crash()
	timer(42, all)
	d.x.Start(43, all)
	timer(43, 2, ask(1, 43))
	// They come before other messages, and in every phase.
	d = staging(t)
	d.x.Timer(begun+15, all)
	d.flush()
	d.sends(ask(0, begun+15), ask(1, begun+15), ask(2, begun+15), ask(3, begun+15), ask(4, begun+15), stage(0, 3), stage(1, 2), stage(2, 1))
}

func TestEstimates(t *testing.T) { // 37.5
	d := newDesk(t, ring())
	d.now = 114
	d.hear(api.Message{Kind: api.TimeTell, Sw: 2, T1: 110, T2: 127, Life: 9})
	want, _ := skew.Meet(skew.Estimate{}, 110, 127, 114, 10)
	if d.x.Estimate(2) != want || want.S != span.Of(12, 18) || d.x.Estimate(1) != (skew.Estimate{}) {
		t.Error(d.x.Estimate(2), want)
	}
	d.now = 124
	d.hear(api.Message{Kind: api.TimeTell, Sw: 2, T1: 120, T2: 138})
	want, _ = skew.Meet(want, 120, 138, 124, 10)
	if d.x.Estimate(2) != want {
		t.Error(d.x.Estimate(2), want)
	}
	for _, m := range []api.Message{{Kind: api.TimeTell, Sw: 2, T1: 125, T2: 140}, {Kind: api.TimeTell, Sw: 2, T1: 124, T2: 999}, {Kind: api.TimeTell, Sw: 5, T1: 124, T2: 130}, {Kind: api.TimeTell, Sw: 2, T1: -1, T2: 140}, {Kind: api.TimeTell, Sw: 2, T1: 124, T2: 140, U: 1}, {Kind: api.TimeTell, Sw: 7, T1: 124}} {
		d.hear(m)
		if d.x.Estimate(2) != want {
			t.Error(m, d.x.Estimate(2))
		}
	}
	d.hear(api.Message{Kind: api.TimeTell, Sw: 0, T1: 124, T2: 130})
	d.hear(api.Message{Kind: api.TimeTell, Sw: 4, T1: 124, T2: 130})
	if e := d.x.Estimate(0); !e.Known || e.S != span.Of(6, 6) || d.x.Estimate(4) != e {
		t.Error(e, d.x.Estimate(4))
	}
	for _, sw := range []int{-1, 5, math.MaxInt, math.MinInt} {
		if d.x.Estimate(sw) != (skew.Estimate{}) {
			t.Error(sw)
		}
	}
	d.x.Crash()
	d.hear(api.Message{Kind: api.TimeTell, Sw: 1, T1: 124, T2: 130})
	if d.x.Estimate(2) != (skew.Estimate{}) || d.x.Estimate(1) != (skew.Estimate{}) {
		t.Error("forgotten")
	}
	d.x.Start(124, all)
	if d.x.Estimate(2) != (skew.Estimate{}) {
		t.Error("forgotten")
	}
}

func TestCrashAndStart(t *testing.T) { // 37.6
	for i, x := range []struct {
		d        *desk
		phase    int
		messages []api.Message
		records  []journal.Rec // that Start writes
	}{
		{known(t, begun), ctl.Idle, nil, nil}, {staging(t), ctl.Undoing, []api.Message{undo(2, 1)}, []journal.Rec{rec(journal.Cancel, 0, 0)}}, {arming(t), ctl.Undoing, []api.Message{undo(2, 1)}, []journal.Rec{rec(journal.Cancel, 0, 0)}}, {waiting(t), ctl.Waiting, nil, nil}, {checking(t), ctl.Waiting, nil, nil},
		{func() *desk { d := arming(t); d.hear(nack(api.Arm, 0, 3)); d.messages = nil; return d }(), ctl.Undoing, []api.Message{undo(2, 1)}, nil}, {func() *desk { d := checking(t); d.hear(nack(api.Check, 0, 3)); d.messages = nil; return d }(), ctl.Undoing, []api.Message{undo(2, 1)}, nil}, {closed(t, 2), ctl.Idle, nil, nil},
	} {
		d := x.d
		d.up = all
		l, s, p := d.x.Journal(), d.x.State(), d.x.Plan()
		d.x.Start(d.now, d.up) // has no effect unless the phase is Down
		d.flush()
		d.sends()
		d.x.Timer(d.now+15, d.up) // leaves messages, which are forgotten
		d.x.Crash()
		d.flush()
		d.sends()
		d.tells()
		if d.x.Phase() != ctl.Down || d.x.State() != s || !slices.Equal(d.x.Journal(), l) || len(d.x.Plan().Rounds) != 0 || d.x.Estimate(3) != (skew.Estimate{}) {
			t.Error(i, "down")
		}
		d.accept(1, api.ErrState)
		d.timer(d.now + 100)
		d.hear(ack(api.Stage, 0, 3))
		d.sends()
		d.tells()
		d.is(ctl.Down)
		d.x.Start(d.now, d.up)
		d.flush()
		d.sends(x.messages...)
		d.tells()
		d.is(x.phase, x.records...)
		if got := d.x.Journal(); !slices.Equal(got, append(l, x.records...)) {
			t.Error(i, got)
		}
		if q := d.x.Plan(); q.From != p.From || q.To != p.To || !slices.Equal(q.Moves, p.Moves) || len(q.Rounds) != len(p.Rounds) {
			t.Error(i, q, p)
		}
	}
}

func TestAfterStart(t *testing.T) { // 37.6
	d := waiting(t)
	d.x.Crash()
	d.x.Start(first, all)
	d.timer(to + 1)
	d.sends(check(1, 4), check(2, 2), check(3, 1))
	for sw := 1; sw <= 3; sw++ {
		d.hear(ack(api.Check, 0, sw))
	}
	d.tells(api.Event{Kind: api.Committed, Real: to + 1, U: 1, X: 1})
	// Undoing starts again at the last round, and nobody is skipped any more.
	d = checking(t)
	d.up = all &^ 2
	d.timer(to + 2)
	d.sends()
	d.timer(to + 2 + life + 1)
	d.sends(undo(1, 2))
	d.up = all
	d.x.Crash()
	d.x.Start(to+50, all)
	d.flush()
	d.sends(undo(2, 1))
	d.is(ctl.Undoing, rec(journal.Sure, 0, 0), rec(journal.Cancel, 0, 0))
}

func TestNil(t *testing.T) { // 37.1
	var x *ctl.Ctl
	x.Timer(0, all)
	x.Hear(0, ack(api.Stage, 0, 0), all)
	x.Crash()
	x.Start(0, all)
	m, e := x.Flush()
	if x.Phase() != ctl.Down || len(x.Journal()) != 0 || x.State() != (journal.State{}) || len(x.Plan().Rounds) != 0 || x.Estimate(0) != (skew.Estimate{}) || len(m)+len(e) != 0 || x.Accept(0, 0, all) != api.ErrState {
		t.Error("nil controller")
	}
}

func TestTheNumbersOfUpdatesEnd(t *testing.T) { // 37.2
	c := api.Config{T: api.Topo{Switches: 2, Links: []api.Link{{A: 0, PortA: 0, B: 1, PortB: 0, Least: 1, Most: 1}, {A: 0, PortA: 1, B: 1, PortB: 1, Least: 1, Most: 1}}, Hosts: []api.Host{{At: 1, Port: 7}}},
		Starts: []int{0, 0}, Room: 1, Wide: 5, Retry: 1, Weights: [][]uint64{weigh.Bits([]float64{1, 2}), weigh.Bits([]float64{2, 1})}}
	x, _ := ctl.New(c)
	x.Hear(0, api.Message{Kind: api.TimeTell, Sw: 0}, 3)
	x.Hear(0, api.Message{Kind: api.TimeTell, Sw: 1}, 3)
	for u := 1; u <= 65535; u++ {
		if e := x.Accept(0, 1, 3); e != api.OK {
			t.Fatal(u, e)
		}
		x.Hear(0, api.Message{Kind: api.Nack, U: u, Of: api.Stage}, 3)
		x.Hear(0, api.Message{Kind: api.Ack, U: u, Of: api.Undo}, 3)
		x.Timer(3, 3)
		x.Flush()
		if x.Phase() != ctl.Idle || x.State().U != u {
			t.Fatal(u, x.Phase(), x.State())
		}
	}
	if e := x.Accept(0, 1, 3); e != api.ErrState {
		t.Error(e)
	}
}

func TestRoundsAreArmedForOneTime(t *testing.T) { // 37.7
	r := rand.New(rand.NewSource(56))
	ends := map[int]int{}
	for range 300 {
		d := known(t, r.Intn(100))
		times := map[[3]int]int{}
		var pool []api.Message
		for range 250 {
			d.now += r.Intn(12)
			d.up = all
			if r.Intn(30) == 0 {
				d.up = r.Intn(32)
			}
			switch r.Intn(12) {
			case 0:
				d.x.Accept(d.now, r.Intn(3), d.up)
			case 1:
				if r.Intn(8) == 0 {
					d.x.Crash()
					d.x.Start(d.now, d.up)
				}
			case 2, 3, 4:
				d.x.Timer(d.now, d.up)
			default:
				if len(pool) > 0 {
					k := r.Intn(len(pool))
					d.x.Hear(d.now, pool[k], d.up)
					if r.Intn(2) == 0 {
						pool = slices.Delete(pool, k, k+1)
					}
				}
			}
			d.flush()
			for _, m := range d.messages {
				answer := api.Message{Kind: api.Ack, Sw: m.Sw, U: m.U, Rd: m.Rd, Of: m.Kind}
				switch {
				case m.Kind == api.TimeAsk:
					answer = api.Message{Kind: api.TimeTell, Sw: m.Sw, T1: m.T1, T2: d.now + 10*m.Sw}
				case r.Intn(40) == 0:
					answer.Kind, answer.Code = api.Nack, 7
				}
				pool = append(pool, answer)
				if m.Kind != api.Arm {
					continue
				}
				key := [3]int{m.U, m.Rd, m.Sw}
				if at, ok := times[key]; ok && at != m.T2 {
					t.Fatal("armed for two times", m, at)
				}
				times[key] = m.T2
				if p := d.x.Plan(); m.Rd > 0 {
					for _, sw := range p.Rounds[m.Rd-1].Sws {
						if _, ok := times[[3]int{m.U, m.Rd - 1, sw}]; !ok {
							t.Fatal("armed before the previous round", m)
						}
					}
				}
			}
			for _, e := range d.events {
				ends[e.Kind]++
			}
			d.messages, d.events = nil, nil
			if s, n, e := journal.Replay(d.x.Journal()); s != d.x.State() || n != len(d.x.Journal()) || e != api.OK {
				t.Fatal(d.x.Journal(), s, n, e)
			}
		}
	}
	for _, kind := range []int{api.Accepted, api.Committed, api.Cancelled, api.Released} {
		if ends[kind] < 20 {
			t.Error("rarely tried", kind, ends)
		}
	}
}
