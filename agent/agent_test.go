package agent_test

import (
	"math"
	"math/rand"
	"slices"
	"testing"

	"turnout/agent"
	"turnout/api"
	"turnout/proto"
	"turnout/rule"
	"turnout/table"
)

func plain(dst, port int) api.Rule { return rule.Plain(api.Dst, dst, 10, port) }

// set changes the port for a host strictly, so it fails if there is no rule for the host.
func set(dst, port int) api.Mod { return api.Mod{Kind: api.ModifyStrict, R: plain(dst, port)} }

func stage(u, rd int, mods ...api.Mod) api.Message {
	return api.Message{Kind: api.Stage, Sw: 3, U: u, Rd: rd, Mods: mods}
}

func arm(u, rd, at int) api.Message {
	return api.Message{Kind: api.Arm, Sw: 3, U: u, Rd: rd, T2: at}
}

func undo(u, rd int) api.Message { return api.Message{Kind: api.Undo, Sw: 3, U: u, Rd: rd} }

func check(u, bits int) api.Message {
	return api.Message{Kind: api.Check, Sw: 3, U: u, Code: bits}
}

// initial is the table of the agents in these tests.
func initial() []api.Rule { return []api.Rule{plain(0, 0), plain(1, 1)} }

func made(t *testing.T) *agent.Agent {
	t.Helper()
	a, e := agent.New(3, initial(), 4)
	if e != api.OK || a == nil {
		t.Fatal(e)
	}
	return a
}

// hear checks the answer: an Ack for OK, or a Nack with this error.
func hear(t *testing.T, a *agent.Agent, now int, m api.Message, e api.Errno, steps ...agent.Step) {
	t.Helper()
	want := api.Message{Kind: api.Ack, Sw: 3, U: m.U, Rd: m.Rd, Of: m.Kind, Life: a.Life()}
	if e != api.OK {
		want.Kind, want.Code = api.Nack, int(e)
	}
	got, ok, done := a.Hear(now, m)
	if !ok || !proto.Same(got, want) || !slices.Equal(done, steps) {
		t.Fatalf("Hear(%d, %v) = %v, %v, %v; want %v, %v", now, m, got, ok, done, want, steps)
	}
}

// holds checks which rounds are staged, armed and done.
func holds(t *testing.T, a *agent.Agent, u int, staged, armed, done []int) {
	t.Helper()
	if a.U() != u || !slices.Equal(a.Staged(), staged) || !slices.Equal(a.Armed(), armed) || !slices.Equal(a.Done(), done) {
		t.Fatal(a.U(), a.Staged(), a.Armed(), a.Done())
	}
}

func has(t *testing.T, a *agent.Agent, want ...api.Rule) {
	t.Helper()
	if !table.Same(a.Table(), want) {
		t.Fatal(a.Table())
	}
}

func flipped(rd int) agent.Step { return agent.Step{Kind: agent.Flipped, Rd: rd} }

func undone(rd int) agent.Step { return agent.Step{Kind: agent.Undone, Rd: rd} }

func failed(rd int) agent.Step { return agent.Step{Kind: agent.Failed, Rd: rd} }

func TestNew(t *testing.T) { // 33.1
	full := make([]api.Rule, 64)
	for i := range full {
		full[i] = plain(i, 7)
	}
	for i, x := range []struct {
		sw   int
		t    []api.Rule
		room int
		e    api.Errno
	}{
		{0, nil, 0, api.OK}, {7, full, 64, api.OK}, {8, nil, 0, api.ErrArg}, {-1, nil, 0, api.ErrArg}, {0, full, 63, api.ErrArg}, {0, nil, -1, api.ErrArg}, {0, nil, 65, api.ErrArg}, {0, []api.Rule{plain(1, 8)}, 64, api.ErrArg}, {0, []api.Rule{plain(1, 1), plain(1, 2)}, 64, api.ErrArg},
	} {
		a, e := agent.New(x.sw, x.t, x.room)
		if e != x.e || (a != nil) != (e == api.OK) {
			t.Errorf("%d: %v, %d", i, a, e)
		}
	}
	if agent.Flipped != 1 || agent.Undone != 2 || agent.Failed != 3 {
		t.Error("kinds of steps")
	}
	a := made(t)
	if !a.Up() || a.Life() != 0 {
		t.Error("initially")
	}
	holds(t, a, 0, nil, nil, nil)
	has(t, a, initial()...)
}

func TestExample(t *testing.T) { // 33.2
	a := made(t)
	hear(t, a, 0, stage(1, 2, set(1, 5)), api.OK)
	hear(t, a, 0, arm(1, 2, 10), api.OK)
	holds(t, a, 1, []int{2}, []int{2}, nil)
	if s := a.Due(9); len(s) != 0 {
		t.Error(s)
	}
	has(t, a, initial()...)
	if s := a.Due(10); !slices.Equal(s, []agent.Step{flipped(2)}) {
		t.Error(s)
	}
	has(t, a, plain(0, 0), plain(1, 5))
	holds(t, a, 1, nil, nil, []int{2})
	if s := a.Due(1 << 60); len(s) != 0 {
		t.Error(s)
	}
}

func TestDueInOrder(t *testing.T) { // 33.2
	a := made(t)
	for rd, at := range []int{20, 10, 10, -5, 30} {
		hear(t, a, -9, stage(1, rd, set(0, rd+1)), api.OK)
		hear(t, a, -9, arm(1, rd, at), api.OK)
	}
	hear(t, a, -9, stage(1, 7, set(0, 0)), api.OK)
	holds(t, a, 1, []int{0, 1, 2, 3, 4, 7}, []int{0, 1, 2, 3, 4}, nil)
	if s := a.Due(-6); len(s) != 0 {
		t.Error(s)
	}
	if s := a.Due(20); !slices.Equal(s, []agent.Step{flipped(3), flipped(1), flipped(2), flipped(0)}) {
		t.Error(s)
	}
	holds(t, a, 1, []int{4, 7}, []int{4}, []int{3, 1, 2, 0})
	has(t, a, plain(0, 1), plain(1, 1))
	if s := a.Due(math.MinInt); len(s) != 0 {
		t.Error(s)
	}
	if s := a.Due(math.MaxInt); !slices.Equal(s, []agent.Step{flipped(4)}) {
		t.Error(s)
	}
}

func TestExtremeTimes(t *testing.T) { // 33.2
	a := made(t)
	hear(t, a, 0, stage(1, 7, set(0, 1)), api.OK)
	hear(t, a, 0, arm(1, 7, api.MaxTime), api.OK)
	if s := a.Due(api.MaxTime - 1); len(s) != 0 {
		t.Error(s)
	}
	if s := a.Due(api.MaxTime); !slices.Equal(s, []agent.Step{flipped(7)}) {
		t.Error(s)
	}
	hear(t, a, math.MinInt, stage(1, 0, set(0, 2)), api.OK)
	hear(t, a, -api.MaxTime-1, arm(1, 0, -api.MaxTime), api.OK)
	if s := a.Due(-api.MaxTime - 1); len(s) != 0 {
		t.Error(s)
	}
	if s := a.Due(-api.MaxTime); !slices.Equal(s, []agent.Step{flipped(0)}) {
		t.Error(s)
	}
}

func TestFailedRound(t *testing.T) { // 33.2
	a := made(t)
	// Both rounds can be applied now, but not both one after the other.
	drop := api.Mod{Kind: api.DeleteStrict, R: plain(1, 0)}
	hear(t, a, 0, stage(1, 0, drop), api.OK)
	hear(t, a, 0, stage(1, 1, set(0, 4), set(1, 5)), api.OK)
	hear(t, a, 0, arm(1, 0, 5), api.OK)
	hear(t, a, 0, arm(1, 1, 6), api.OK)
	if s := a.Due(9); !slices.Equal(s, []agent.Step{flipped(0), failed(1)}) {
		t.Error(s)
	}
	has(t, a, plain(0, 0))
	holds(t, a, 1, nil, nil, []int{0})
	hear(t, a, 9, arm(1, 1, 20), api.ErrNone)
	hear(t, a, 9, check(1, 2), api.ErrNone)
	hear(t, a, 9, undo(1, 1), api.OK) // it is not done, so only dead
	hear(t, a, 9, undo(1, 0), api.OK, undone(0))
	has(t, a, initial()...)
}

func TestModificationsInOrderAndRoom(t *testing.T) { // 33.2, 33.4
	a := made(t)
	add := func(dst, port int) api.Mod { return api.Mod{Kind: api.Add, R: plain(dst, port)} }
	hear(t, a, 0, stage(1, 0, add(2, 1), add(3, 1), add(4, 1)), api.ErrFull)
	hear(t, a, 0, stage(1, 0, api.Mod{Kind: api.DeleteStrict, R: plain(0, 0)}, add(2, 1), add(3, 1), set(2, 6)), api.OK)
	hear(t, a, 0, arm(1, 0, 1), api.OK)
	a.Due(1)
	has(t, a, plain(1, 1), plain(2, 6), plain(3, 1))
	hear(t, a, 2, stage(1, 1, set(0, 1)), api.ErrNone)
	hear(t, a, 2, stage(1, 1), api.OK)
	hear(t, a, 2, arm(1, 1, 3), api.OK)
	if s := a.Due(3); !slices.Equal(s, []agent.Step{flipped(1)}) {
		t.Error(s)
	}
}

func TestStage(t *testing.T) { // 33.4
	a := made(t)
	hear(t, a, 0, stage(2, 1, set(0, 4)), api.OK)
	hear(t, a, 0, stage(2, 1, set(0, 4)), api.OK)
	hear(t, a, 0, stage(2, 1, set(0, 5)), api.ErrTwice)
	hear(t, a, 0, stage(2, 1), api.ErrTwice)
	hear(t, a, 0, stage(2, 1, set(0, 4), set(0, 4)), api.ErrTwice)
	hear(t, a, 0, stage(2, 1, set(9, 5)), api.ErrTwice)
	hear(t, a, 0, stage(2, 2, set(9, 5)), api.ErrNone)
	holds(t, a, 2, []int{1}, nil, nil)
	hear(t, a, 0, arm(2, 1, 5), api.OK)
	hear(t, a, 0, stage(2, 1, set(0, 4)), api.OK)
	hear(t, a, 5, stage(2, 1, set(0, 7)), api.OK, flipped(1)) // done by now
	hear(t, a, 6, stage(2, 1, set(9, 7)), api.OK)
	holds(t, a, 2, nil, nil, []int{1})
	hear(t, a, 6, undo(2, 1), api.OK, undone(1))
	hear(t, a, 6, stage(2, 1, set(0, 4)), api.ErrState)
	hear(t, a, 6, arm(2, 1, 9), api.ErrState)
	holds(t, a, 2, nil, nil, nil)
}

func TestArm(t *testing.T) { // 33.4
	a := made(t)
	hear(t, a, 0, arm(1, 0, 9), api.ErrNone)
	hear(t, a, 0, stage(1, 0, set(0, 4)), api.OK)
	hear(t, a, 9, arm(1, 0, 9), api.ErrLate)
	hear(t, a, 10, arm(1, 0, 9), api.ErrLate)
	holds(t, a, 1, []int{0}, nil, nil)
	hear(t, a, 8, arm(1, 0, 9), api.OK)
	hear(t, a, 8, arm(1, 0, 9), api.OK)
	hear(t, a, 8, arm(1, 0, 10), api.ErrTwice)
	hear(t, a, 8, arm(1, 0, 3), api.ErrTwice)
	hear(t, a, 9, arm(1, 0, 10), api.OK, flipped(0)) // done by now
	hear(t, a, 9, arm(1, 0, 3), api.OK)
	hear(t, a, 9, undo(1, 5), api.OK)
	hear(t, a, 9, arm(1, 5, 30), api.ErrState)
	hear(t, a, 9, stage(1, 6, set(0, 5)), api.OK)
	hear(t, a, 9, arm(1, 6, 20), api.OK)
	hear(t, a, 9, undo(1, 6), api.OK)
	hear(t, a, 9, arm(1, 6, 20), api.ErrState)
	if s := a.Due(100); len(s) != 0 {
		t.Error("a dead round is executed", s)
	}
}

func TestUndo(t *testing.T) { // 33.4
	a := made(t)
	for rd := range 3 {
		hear(t, a, 0, stage(1, rd, set(0, 4+rd)), api.OK)
		hear(t, a, 0, arm(1, rd, 1+rd), api.OK)
	}
	a.Due(3)
	hear(t, a, 3, undo(1, 0), api.ErrState)
	hear(t, a, 3, undo(1, 1), api.ErrState)
	holds(t, a, 1, nil, nil, []int{0, 1, 2})
	hear(t, a, 3, undo(1, 2), api.OK, undone(2))
	has(t, a, plain(0, 5), plain(1, 1))
	hear(t, a, 3, undo(1, 2), api.OK)
	hear(t, a, 3, undo(1, 7), api.OK)
	hear(t, a, 3, stage(1, 5, set(0, 0)), api.OK)
	hear(t, a, 3, arm(1, 5, 10), api.OK)
	hear(t, a, 3, stage(1, 4, set(0, 0)), api.OK)
	hear(t, a, 3, undo(1, -1), api.OK, undone(1), undone(0))
	has(t, a, initial()...)
	holds(t, a, 1, nil, nil, nil)
	for rd := range 8 {
		hear(t, a, 3, stage(1, rd), api.ErrState)
		hear(t, a, 3, arm(1, rd, 99), api.ErrState)
	}
	if s := a.Due(50); len(s) != 0 {
		t.Error(s)
	}
	hear(t, a, 3, undo(1, -1), api.OK)
	hear(t, a, 3, check(1, 0), api.OK)
	hear(t, a, 3, check(1, 1), api.ErrNone)
}

func TestCheck(t *testing.T) { // 33.4
	a := made(t)
	for _, rd := range []int{1, 4} {
		hear(t, a, 0, stage(1, rd, set(0, rd)), api.OK)
		hear(t, a, 0, arm(1, rd, rd), api.OK)
	}
	hear(t, a, 0, check(1, 0), api.OK)
	hear(t, a, 0, check(1, 1<<1), api.ErrNone)
	hear(t, a, 1, check(1, 1<<1), api.OK, flipped(1))
	hear(t, a, 1, check(1, 1<<1|1<<4), api.ErrNone)
	hear(t, a, 4, check(1, 1<<1|1<<4), api.OK, flipped(4))
	hear(t, a, 4, check(1, 1<<4), api.OK)
	hear(t, a, 4, check(1, 255), api.ErrNone)
}

func TestUpdates(t *testing.T) { // 33.4
	a := made(t)
	hear(t, a, 0, stage(5, 0, set(0, 4)), api.OK)
	hear(t, a, 0, arm(5, 0, 2), api.OK)
	hear(t, a, 0, stage(5, 1, set(0, 5)), api.OK)
	hear(t, a, 0, arm(5, 1, 7), api.OK)
	hear(t, a, 2, stage(4, 3), api.ErrState, flipped(0))
	for _, m := range []api.Message{arm(4, 1, 9), undo(4, -1), undo(4, 0), check(4, 0), stage(1, 1)} {
		hear(t, a, 2, m, api.ErrState)
	}
	holds(t, a, 5, []int{1}, []int{1}, []int{0})
	// A later update forgets the rounds of this one, but not the table; due rounds are executed before.
	hear(t, a, 7, arm(6, 1, 9), api.ErrNone, flipped(1))
	holds(t, a, 6, nil, nil, nil)
	has(t, a, plain(0, 5), plain(1, 1))
	hear(t, a, 7, undo(6, -1), api.OK)
	has(t, a, plain(0, 5), plain(1, 1))
	hear(t, a, 7, check(7, 1), api.ErrNone)
	hear(t, a, 7, stage(7, 0, set(1, 2)), api.OK) // the dead rounds of the previous update are not dead
	hear(t, a, 7, arm(7, 0, 20), api.OK)
	hear(t, a, 7, undo(9, 3), api.OK)
	if s := a.Due(99); len(s) != 0 || a.U() != 9 {
		t.Error(s)
	}
	hear(t, a, 7, stage(65535, 0, set(1, 2)), api.OK)
}

func TestTimeAskAndIgnoredMessages(t *testing.T) { // 33.4
	a := made(t)
	hear(t, a, 0, stage(1, 0, set(0, 4)), api.OK)
	hear(t, a, 0, arm(1, 0, 2), api.OK)
	a.Crash()
	a.Start()
	hear(t, a, 0, stage(1, 0, set(0, 4)), api.OK)
	hear(t, a, 0, arm(1, 0, 2), api.OK)
	// What is ignored executes nothing, even if it is due.
	for i, m := range []api.Message{
		{}, {Kind: 9, Sw: 3}, {Kind: api.TimeAsk, Sw: 2, T1: 5}, {Kind: api.TimeAsk, Sw: 3, T1: -1}, {Kind: api.TimeAsk, Sw: 3, T1: 1, U: 1}, {Kind: api.TimeTell, Sw: 3, T1: 1}, {Kind: api.Ack, Sw: 3, U: 1, Of: 3}, {Kind: api.Nack, Sw: 3, U: 1, Of: 3}, stage(0, 1), stage(1, 8), stage(1, 1, api.Mod{}),
		{Kind: api.Undo, Sw: 4, U: 9}, arm(1, -1, 5),
	} {
		if got, ok, steps := a.Hear(100, m); ok || !proto.Same(got, api.Message{}) || len(steps) != 0 {
			t.Error(i, got, ok, steps)
		}
	}
	got, ok, steps := a.Hear(-7, api.Message{Kind: api.TimeAsk, Sw: 3, T1: 55})
	if !ok || !proto.Same(got, api.Message{Kind: api.TimeTell, Sw: 3, T1: 55, T2: -7, Life: 1}) || len(steps) != 0 {
		t.Error(got, ok, steps)
	}
	got, ok, steps = a.Hear(2, api.Message{Kind: api.TimeAsk, Sw: 3, T1: 56})
	if !ok || !proto.Same(got, api.Message{Kind: api.TimeTell, Sw: 3, T1: 56, T2: 2, Life: 1}) || !slices.Equal(steps, []agent.Step{flipped(0)}) || a.U() != 1 {
		t.Error(got, ok, steps)
	}
}

func TestCrash(t *testing.T) { // 33.1
	a := made(t)
	hear(t, a, 0, stage(4, 0, set(0, 4)), api.OK)
	hear(t, a, 0, arm(4, 0, 1), api.OK)
	a.Due(1)
	hear(t, a, 1, stage(4, 1, set(0, 5)), api.OK)
	hear(t, a, 1, arm(4, 1, 9), api.OK)
	hear(t, a, 1, stage(4, 2, set(0, 6)), api.OK)
	hear(t, a, 1, undo(4, 3), api.OK)
	a.Crash()
	if a.Up() || a.Life() != 1 {
		t.Error(a.Up(), a.Life())
	}
	holds(t, a, 4, nil, nil, []int{0})
	has(t, a, plain(0, 4), plain(1, 1))
	a.Crash()
	if a.Life() != 1 {
		t.Error("Crash has no effect on an agent that is down")
	}
	got, ok, steps := a.Hear(20, check(4, 1))
	sent, steps2 := a.Send(20, 0, api.Packet{0, 1, 0, 0})
	if ok || !proto.Same(got, api.Message{}) || len(steps) != 0 || len(sent) != 0 || len(steps2) != 0 || len(a.Due(20)) != 0 {
		t.Error("an agent that is down does nothing")
	}
	a.Start()
	a.Start()
	if !a.Up() || a.Life() != 1 || len(a.Due(20)) != 0 {
		t.Error(a.Up(), a.Life())
	}
	hear(t, a, 20, stage(4, 3, set(0, 1)), api.ErrState)
	hear(t, a, 20, check(4, 1), api.OK)
	hear(t, a, 20, arm(4, 1, 30), api.ErrNone)
	hear(t, a, 20, undo(4, 0), api.OK, undone(0))
	has(t, a, initial()...)
	for range 65600 {
		a.Crash()
		a.Start()
	}
	if a.Life() != 65535 {
		t.Error(a.Life())
	}
}

func TestSend(t *testing.T) { // 33.3
	a := made(t)
	hear(t, a, 0, stage(1, 0, set(1, 6)), api.OK)
	hear(t, a, 0, arm(1, 0, 5), api.OK)
	p := api.Packet{7, 1, 2, 3}
	if sent, steps := a.Send(4, 0, p); !slices.Equal(sent, []api.Sent{{Port: 1, P: p}}) || len(steps) != 0 {
		t.Error(sent, steps)
	}
	if sent, steps := a.Send(5, 0, p); !slices.Equal(sent, []api.Sent{{Port: 6, P: p}}) || !slices.Equal(steps, []agent.Step{flipped(0)}) {
		t.Error(sent, steps)
	}
	if sent, steps := a.Send(5, 0, api.Packet{7, 9, 2, 3}); len(sent) != 0 || len(steps) != 0 {
		t.Error(sent, steps)
	}
}

func TestNil(t *testing.T) { // 33.1
	var a *agent.Agent
	a.Crash()
	a.Start()
	got, ok, steps := a.Hear(0, check(1, 0))
	sent, steps2 := a.Send(0, 0, api.Packet{})
	if len(a.Table()) != 0 || a.Life() != 0 || a.U() != 0 || a.Up() || len(a.Staged()) != 0 || len(a.Armed()) != 0 || len(a.Done()) != 0 || len(a.Due(0)) != 0 || ok || !proto.Same(got, api.Message{}) || len(steps)+len(sent)+len(steps2) != 0 {
		t.Error("nil agent")
	}
}

func TestMemory(t *testing.T) { // 33 with R4
	old := initial()
	a, _ := agent.New(3, old, 4)
	old[0].Acts[0].V = 7
	a.Table()[1].Acts[0].V = 7
	m := stage(1, 0, set(0, 4))
	hear(t, a, 0, m, api.OK)
	m.Mods[0].R.Acts[0].V = 7
	hear(t, a, 0, arm(1, 0, 1), api.OK)
	has(t, a, initial()...)
	a.Due(1)
	has(t, a, plain(0, 4), plain(1, 1))
}

// world is what the agent must be, kept as simply as possible.
type world struct {
	staged map[int][]api.Mod
	armed  map[int]int
	done   []int
	dead   map[int]bool
}

func TestTablesAreResultsOfCompleteRounds(t *testing.T) { // 33.5
	r := rand.New(rand.NewSource(52))
	flips, undos := 0, 0
	for range 300 {
		a := made(t)
		tables := [][]api.Rule{initial()} // after each round that is done
		w := world{map[int][]api.Mod{}, map[int]int{}, nil, map[int]bool{}}
		now, u := 0, 1
		take := func(steps []agent.Step) {
			for _, s := range steps {
				switch s.Kind {
				case agent.Flipped:
					flips++
					if at, ok := w.armed[s.Rd]; !ok || at > now || w.dead[s.Rd] {
						t.Fatal("executed too early, or without being armed", s, now)
					}
					next, _, e := table.Mods(tables[len(tables)-1], w.staged[s.Rd], 8, 4)
					if e != api.OK {
						t.Fatal(e)
					}
					tables = append(tables, next)
					w.done = append(w.done, s.Rd)
					delete(w.armed, s.Rd)
					delete(w.staged, s.Rd)
				case agent.Undone:
					undos++
					if w.done[len(w.done)-1] != s.Rd {
						t.Fatal("undone in the wrong order")
					}
					w.done = w.done[:len(w.done)-1]
					tables = tables[:len(tables)-1]
				default:
					delete(w.armed, s.Rd)
					delete(w.staged, s.Rd)
				}
			}
		}
		for range 40 {
			now += r.Intn(3)
			rd := r.Intn(4)
			var m api.Message
			switch r.Intn(12) {
			case 0, 1, 2, 3:
				m = stage(u, rd, set(r.Intn(2), r.Intn(8)))
			case 4, 5, 6, 7:
				m = arm(u, rd, now+r.Intn(6)-1)
			case 8:
				m = undo(u, r.Intn(5)-1)
			case 9:
				take(a.Due(now))
				continue
			case 10:
				if r.Intn(4) == 0 {
					a.Crash()
					a.Start()
					clear(w.staged)
					clear(w.armed)
				}
				continue
			default:
				m = check(u, 1<<rd)
			}
			got, ok, steps := a.Hear(now, m)
			if !ok {
				t.Fatal(m)
			}
			take(steps)
			if got.Kind == api.Ack && m.Kind == api.Stage && !slices.Contains(w.done, m.Rd) && len(w.staged[m.Rd]) == 0 {
				w.staged[m.Rd] = m.Mods
			}
			if got.Kind == api.Ack && m.Kind == api.Arm && !slices.Contains(w.done, m.Rd) {
				w.armed[m.Rd] = m.T2
			}
			if got.Kind == api.Ack && m.Kind == api.Undo {
				for rd := range 8 {
					if m.Rd < 0 || m.Rd == rd {
						w.dead[rd] = true
						delete(w.staged, rd)
						delete(w.armed, rd)
					}
				}
			}
			if !table.Same(a.Table(), tables[len(tables)-1]) || !slices.Equal(a.Done(), w.done) || len(a.Staged()) != len(w.staged) || len(a.Armed()) != len(w.armed) {
				t.Fatal(m, got, a.Table(), tables, w)
			}
		}
		_, _, steps := a.Hear(now, undo(u, -1))
		take(steps)
		has(t, a, initial()...)
	}
	if flips < 200 || undos < 100 {
		t.Error(flips, undos)
	}
}
