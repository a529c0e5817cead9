package ctl

import (
	"maps"
	"slices"

	"turnout/api"
	"turnout/clock"
	"turnout/journal"
	"turnout/plan"
	"turnout/proto"
	"turnout/skew"
)

const (
	maxUpdate = 1<<16 - 1
	allRounds = -1
)

// Accept begins an update to the routes of set k.
func (x *Ctl) Accept(now, k, up int) api.Errno {
	if x.Phase() != Idle || x.state.Out != 0 || x.state.U >= maxUpdate {
		return api.ErrState
	}
	if !within(k, 0, len(x.routes)-1) || !within(now, 0, clock.End) {
		return api.ErrArg
	}
	p, e := x.planned(k, now)
	if e != api.OK {
		return e
	}
	if participants(p)&^up != 0 {
		return api.ErrState
	}
	for _, r := range p.Rounds {
		if _, ok := x.aims(r); !ok {
			return api.ErrLate
		}
	}
	x.begin(now, k, p)
	return api.OK
}

// planned returns the plan of an update to the routes of set k that begins at a real time.
func (x *Ctl) planned(k, at int) (plan.Plan, api.Errno) {
	return plan.Make(x.c.T, x.routes[x.state.Now], x.routes[k], at, skew.Miss(x.c.Wide), x.c.Lead)
}

// participants returns the bits of the switches that have parts in a plan.
func participants(p plan.Plan) int {
	bits := 0
	for _, r := range p.Rounds {
		for _, sw := range r.Sws {
			bits |= 1 << sw
		}
	}
	return bits
}

// aims returns the time for which each switch of a round is to be armed, and whether all clocks are known well enough.
func (x *Ctl) aims(r plan.Round) ([]int, bool) {
	var aims []int
	for _, sw := range r.Sws {
		aim, half, ok := skew.Aim(x.estimates[sw], r.At, x.c.Rate)
		if !ok || half > x.c.Wide {
			return nil, false
		}
		aims = append(aims, aim)
	}
	return aims, true
}

func (x *Ctl) begin(now, k int, p plan.Plan) {
	x.write(journal.Rec{Kind: journal.Begin, U: x.state.U + 1, A: k, B: now})
	x.tell(now, api.Event{Kind: api.Accepted, X: p.From, Y: p.To})
	x.phase = Staging
	x.open = update{p: p, awaited: map[int]sending{}}
	for k := range p.Rounds {
		for _, part := range plan.Parts(p, k) {
			x.await(now, api.Message{Kind: api.Stage, Sw: part.Sw, Rd: k, Mods: part.Mods})
		}
	}
}

// write writes a record before the controller acts on it.
func (x *Ctl) write(r journal.Rec) {
	next, e := journal.Next(x.state, r)
	if e == api.OK {
		x.state = next
		x.journal = append(x.journal, r)
	}
}

// record writes a record of the current update.
func (x *Ctl) record(kind, a int) {
	x.write(journal.Rec{Kind: kind, U: x.state.U, A: a})
}

// tell keeps an event of the current update.
func (x *Ctl) tell(now int, e api.Event) {
	e.Real, e.U = now, x.state.U
	x.events = append(x.events, e)
}

// send keeps a copy of a message, because Flush gives it away.
func (x *Ctl) send(m api.Message) {
	x.messages = append(x.messages, proto.Clean(m))
}

// await sends a message of the current update whose answer is awaited.
func (x *Ctl) await(now int, m api.Message) {
	m.U = x.state.U
	x.open.awaited[numberOf(m.Rd, m.Sw)] = sending{sent: true, at: now, m: m}
	x.send(m)
}

// numberOf orders awaited answers by round and then by switch.
func numberOf(rd, sw int) int { return rd*api.MaxSwitches + sw }

func (x *Ctl) awaitedNumbers() []int { return slices.Sorted(maps.Keys(x.open.awaited)) }

func (x *Ctl) sendAgain(now int) {
	for _, n := range x.awaitedNumbers() {
		if s := x.open.awaited[n]; s.isDue(now, x.c.Retry) {
			s.at = now
			x.open.awaited[n] = s
			x.send(s.m)
		}
	}
}

// proceed goes on when no more answers are awaited.
func (x *Ctl) proceed(now, up int) {
	switch x.phase {
	case Staging:
		x.arm(now, up, 0)
	case Arming:
		x.arm(now, up, x.open.round+1)
	case Checking:
		x.record(journal.Commit, 0)
		x.tell(now, api.Event{Kind: api.Committed, X: x.state.Now})
		x.becomeIdle()
	case Undoing:
		x.rest(now)
	}
}

// arm arms the round at index k; after the last one the update is sure.
func (x *Ctl) arm(now, up, k int) {
	if k == len(x.open.p.Rounds) {
		x.record(journal.Sure, 0)
		x.phase = Waiting
		return
	}
	round := x.open.p.Rounds[k]
	aims, ok := x.aims(round)
	if !ok {
		x.undo(now, up)
		return
	}
	x.record(journal.Arm, k)
	x.phase = Arming
	x.open.round = k
	for i, sw := range round.Sws {
		x.await(now, api.Message{Kind: api.Arm, Sw: sw, Rd: k, T2: aims[i]})
	}
}

func (x *Ctl) becomeIdle() {
	x.phase = Idle
	x.swept = sending{}
	x.open = update{}
}

// undo begins to undo the update, at its last round.
func (x *Ctl) undo(now, up int) {
	if !x.state.Cancelled {
		x.record(journal.Cancel, 0)
	}
	x.phase = Undoing
	x.undoAt(now, up, len(x.open.p.Rounds)-1)
}

func (x *Ctl) undoAt(now, up, k int) {
	x.open.round = k
	x.open.resting = false
	x.open.awaited = map[int]sending{}
	for _, sw := range x.open.p.Rounds[k].Sws {
		if !has(up, sw) || has(x.open.skipped, sw) {
			x.open.skipped |= 1 << sw
			continue
		}
		x.await(now, api.Message{Kind: api.Undo, Sw: sw, Rd: k})
	}
	if len(x.open.awaited) == 0 {
		x.rest(now)
	}
}

func has(bits, i int) bool { return bits>>i&1 == 1 }

// rest waits until no packet is in the network that met the round that was undone.
func (x *Ctl) rest(now int) {
	x.open.resting = true
	x.open.restEnd = now + x.open.p.Life + 1
}

// cancel ends an update that is undone.
func (x *Ctl) cancel(now, up int) {
	all := 1<<x.c.T.Switches - 1
	out := (x.open.skipped | ^up) & all
	x.record(journal.Close, out)
	x.tell(now, api.Event{Kind: api.Cancelled, X: out})
	x.becomeIdle()
}

// Timer does what is due.
func (x *Ctl) Timer(now, up int) {
	if x.Phase() == Down {
		return
	}
	x.askTimes(now, up)
	switch x.phase {
	case Idle:
		x.sweep(now, up)
	case Undoing:
		x.goOnUndoing(now, up)
	default:
		x.goOn(now, up)
	}
}

func (x *Ctl) askTimes(now, up int) {
	for sw := range x.asked {
		if has(up, sw) && x.asked[sw].isDue(now, x.c.Retry) {
			x.asked[sw] = sending{sent: true, at: now}
			x.send(api.Message{Kind: api.TimeAsk, Sw: sw, T1: now})
		}
	}
}

// sweep asks the switches that are Out to undo what they hold of the last update.
func (x *Ctl) sweep(now, up int) {
	if x.state.Out == 0 || !x.swept.isDue(now, x.c.Retry) {
		return
	}
	x.swept = sending{sent: true, at: now}
	for sw := range x.c.T.Switches {
		if has(x.state.Out, sw) && has(up, sw) {
			x.send(api.Message{Kind: api.Undo, Sw: sw, U: x.state.U, Rd: allRounds})
		}
	}
}

// goOn continues an update that is not undone.
func (x *Ctl) goOn(now, up int) {
	switch {
	case participants(x.open.p)&^up != 0, x.isTooLate(now):
		x.undo(now, up)
	case x.phase == Waiting && now > x.open.p.To:
		x.check(now)
	default:
		x.sendAgain(now)
	}
}

// isTooLate reports whether a round comes so soon that arming it might not succeed.
func (x *Ctl) isTooLate(now int) bool {
	return (x.phase == Staging || x.phase == Arming) && now >= x.open.p.Rounds[x.open.round].At-x.c.Margin
}

// check asks each participant whether its rounds are done.
func (x *Ctl) check(now int) {
	x.phase = Checking
	for sw := range x.c.T.Switches {
		rounds := 0
		for k, r := range x.open.p.Rounds {
			if slices.Contains(r.Sws, sw) {
				rounds |= 1 << k
			}
		}
		if rounds != 0 {
			x.await(now, api.Message{Kind: api.Check, Sw: sw, Code: rounds})
		}
	}
}

func (x *Ctl) goOnUndoing(now, up int) {
	for _, n := range x.awaitedNumbers() {
		if sw := x.open.awaited[n].m.Sw; !has(up, sw) {
			x.open.skipped |= 1 << sw
			delete(x.open.awaited, n)
		}
	}
	switch {
	case len(x.open.awaited) == 0 && !x.open.resting:
		x.rest(now)
	case x.open.resting && now >= x.open.restEnd && x.open.round > 0:
		x.undoAt(now, up, x.open.round-1)
	case x.open.resting && now >= x.open.restEnd:
		x.cancel(now, up)
	default:
		x.sendAgain(now)
	}
}

// Hear processes a message.
func (x *Ctl) Hear(now int, m api.Message, up int) {
	if x.Phase() == Down || !proto.Right(m) || m.Sw >= x.c.T.Switches {
		return
	}
	switch {
	case m.Kind == api.TimeTell:
		x.hearTime(now, m)
	case m.Kind == api.Ack && m.U == x.state.U:
		x.hearAck(now, m, up)
	case m.Kind == api.Nack && x.phase != Undoing && x.isAwaited(m):
		x.undo(now, up)
	}
}

func (x *Ctl) hearTime(now int, m api.Message) {
	next, e := skew.Meet(x.estimates[m.Sw], m.T1, m.T2, now, x.c.Rate)
	if e == api.OK {
		x.estimates[m.Sw] = next
	}
}

// isAwaited reports whether m answers a message whose answer is awaited.
func (x *Ctl) isAwaited(m api.Message) bool {
	s, awaited := x.open.awaited[numberOf(m.Rd, m.Sw)]
	return awaited && m.U == s.m.U && m.Of == s.m.Kind
}

func (x *Ctl) hearAck(now int, m api.Message, up int) {
	if x.isAwaited(m) {
		delete(x.open.awaited, numberOf(m.Rd, m.Sw))
		if len(x.open.awaited) == 0 {
			x.proceed(now, up)
		}
		return
	}
	if x.phase == Idle && m.Of == api.Undo && m.Rd == allRounds && has(x.state.Out, m.Sw) {
		x.record(journal.Release, m.Sw)
		x.tell(now, api.Event{Kind: api.Released, Sw: m.Sw})
	}
}

// Crash makes the controller go down; only the journal and the configuration survive.
func (x *Ctl) Crash() {
	if x != nil {
		x.memory = memory{phase: Down}
	}
}

// Start continues where the journal ends.
func (x *Ctl) Start(now, up int) {
	if x == nil || x.phase != Down {
		return
	}
	x.memory = fresh(x.c.T.Switches)
	x.state, _, _ = journal.Replay(x.journal)
	if !x.state.Open {
		return
	}
	p, _ := x.planned(x.state.Target, x.state.At)
	x.open = update{p: p, awaited: map[int]sending{}}
	if x.state.Sure && !x.state.Cancelled {
		x.phase = Waiting
		return
	}
	x.undo(now, up)
}
