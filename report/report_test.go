package report_test

import (
	"math"
	"math/rand"
	"strconv"
	"strings"
	"testing"

	"turnout/api"
	"turnout/audit"
	"turnout/ctl"
	"turnout/fabric"
	"turnout/float"
	"turnout/journal"
	"turnout/meter"
	"turnout/report"
	"turnout/script"
	"turnout/setup"
	"turnout/trace"
)

const config = `switches 3
link 0 1 1 0 2 5
link 0 2 1 3 1 4
link 1 1 2 0 3 3
host 0 7
host 2 7
weights 3ff0000000000000 4000000000000000 3ff0000000000000
weights 4000000000000000 3ff0000000000000 3ff0000000000000
starts 5 -7 100
rate 100
room 8
wide 50
lead 40
margin 10
retry 20
`

func TestWordAndEvent(t *testing.T) { // 44.1
	for kind, want := range []string{"?", "injected", "came", "gone", "dropped", "flipped", "undone", "failed", "accepted", "committed", "cancelled", "released", "crashed", "started", "?"} {
		if w := report.Word(kind); w != want {
			t.Errorf("Word(%d) = %q", kind, w)
		}
	}
	if report.Word(-1) != "?" || report.Word(math.MaxInt) != "?" || report.Word(math.MinInt) != "?" {
		t.Error("Word")
	}
	for _, x := range []struct {
		e    api.Event
		want string
	}{{api.Event{Kind: api.Gone, Real: 1, U: 2, Sw: 3, X: 4, Y: 5}, "1 gone 2 3 4 5"}, {api.Event{Kind: 99, Real: -1, U: -2, Sw: -3, X: -4, Y: -50}, "-1 ? -2 -3 -4 -50"}, {api.Event{Kind: api.Crashed, Sw: -1}, "0 crashed 0 -1 0 0"}} {
		if s := report.Event(x.e); s != x.want {
			t.Errorf("%q; want %q", s, x.want)
		}
	}
}

func TestErrors(t *testing.T) { // 44.2
	invalid := strings.Replace(config, "retry 20", "retry 0", 1)
	long := strings.Repeat("timer\n", 401)
	for _, x := range []struct{ s, t, want string }{
		{"", "", "setup 1\n"}, {config + "x", "tick\n", "setup 16\n"}, {"x\n", "", "setup 1\n"}, {config, "timer\ntick\n", "script 2\n"}, {invalid, "tick", "script 1\n"}, {invalid, "timer\n", "setup\n"}, {invalid, long, "setup\n"}, {config, long, "script\n"}, {config, long + "?", "script 402\n"},
		{strings.Replace(config, "rate 100", "rate 501", 1), "", "setup\n"}, {strings.Replace(config, "room 8", "room 08", 1), "", "setup 11\n"},
	} {
		if got := report.Run(x.s, x.t); got != x.want {
			t.Errorf("%q; want %q", got, x.want)
		}
	}
	if got := report.Run(config, long[:400*6]+"# more\n\n"); strings.Count(got, "\n") != 407 { // with 5 headings and 2 rates
		t.Error(got)
	}
}

func TestEmptyScript(t *testing.T) { // 44.2
	if got := report.Run(config, ""); got != "events\njournal\ntraces\nrates\n0 7ff8000000000001\n1 7ff8000000000001\nfound\n" {
		t.Error(got)
	}
}

func TestReport(t *testing.T) { // 44.2
	const steps = "timer\n# answers\ndeliver 0\ndeliver 5\ninject 0 1\ntick 4\ncrash 2\ninject 1 0\ntick 4\nturn 1 101\nupdate 0"
	const want = `0 timer
0 deliver 0
0 deliver 5: none
0 inject 0 1
0 tick 4
4 crash 2
4 inject 1 0
4 tick 4
8 turn 1 101: argument
8 update 0: none
events
0 injected 0 0 0 1
0 came 0 0 7 0
4 crashed 0 2 0 0
4 injected 1 2 1 0
4 came 1 2 7 0
4 dropped 1 2 0 0
5 came 0 1 0 0
8 came 0 2 0 0
8 dropped 0 2 0 0
journal
traces
0: 0>1 at 0: 0 1 2 dropped at 8
1: 1>0 at 4: 2 dropped at 4
rates
0 0000000000000000
1 0000000000000000
found
lost 0
lost 1
other 1
`
	if got := report.Run(config, steps); got != want {
		t.Error(got)
	}
}

// full is an update that is committed, with a packet before it and one after it.
const full = "timer\ndeliver 0\ndeliver 0\ndeliver 0\ndeliver 0\ndeliver 0\ndeliver 0\ninject 0 1\nupdate 1\ndeliver 0\ndeliver 0\ndeliver 0\ndeliver 0\ndeliver 0\ndeliver 0\ndeliver 0\ndeliver 0\ntick 500\ntimer\ndeliver 0\ndeliver 0\ndeliver 0\ndeliver 0\ndeliver 0\ndeliver 0\ndeliver 0\ndeliver 0\ndeliver 0\ndeliver 0\ninject 0 1\ntick 12\n"

// expected puts the report together from the parts that other packages say.
func expected(t *testing.T, s, steps string) string {
	t.Helper()
	c, _, e := setup.Parse(s)
	l, _, e2 := script.Parse(steps)
	routes, e3 := ctl.Check(c)
	x, e4 := fabric.New(c)
	if e != api.OK || e2 != api.OK || e3 != api.OK || e4 != api.OK {
		t.Fatal(e, e2, e3, e4)
	}
	var lines []string
	for _, step := range l {
		line := strconv.Itoa(x.Real()) + " " + script.Line(step)
		if e := x.Do(step); e != api.OK {
			line += ": " + e.Error()
		}
		lines = append(lines, line)
	}
	lines = append(lines, "events")
	gone := map[int]int{}
	for _, e := range x.Events() {
		lines = append(lines, report.Event(e))
		if e.Kind == api.Gone {
			gone[e.X]++
		}
	}
	lines = append(lines, "journal")
	for _, r := range x.Ctl().Journal() {
		lines = append(lines, strings.TrimSuffix(journal.Text([]journal.Rec{r}), "\n"))
	}
	lines = append(lines, "traces")
	for _, tr := range trace.Of(x.Events()) {
		lines = append(lines, trace.Text(tr))
	}
	lines = append(lines, "rates")
	for h := range c.T.Hosts {
		bits := strconv.FormatUint(float.Bits(meter.Rate(gone[h], x.Real())), 16)
		lines = append(lines, strconv.Itoa(h)+" "+strings.Repeat("0", 16-len(bits))+bits)
	}
	lines = append(lines, "found")
	for _, f := range audit.Check(c.T, routes, x.Events()) {
		lines = append(lines, audit.Name(f.Kind)+" "+strconv.Itoa(f.U))
	}
	return strings.Join(lines, "\n") + "\n"
}

func TestReportOfAnUpdate(t *testing.T) { // 44.2, 44.3
	got := report.Run(config, full)
	if got != expected(t, config, full) {
		t.Error(got)
	}
	for _, part := range []string{"\n0 update 1\n", "\njournal\nbegin 1 1 0\narm 1 0 0\narm 1 1 0\nsure 1 0 0\ncommit 1 0 0\ntraces\n", "\n500 committed 1 0 1 0\n", "\n0: 0>1 at 0: 0 1 2 gone 1 at 8\n1: 0>1 at 500: 0 1 2 gone 1 at 507\n", "\nrates\n0 0000000000000000\n1 3f70000000000000\nfound\n"} {
		if !strings.Contains(got, part) {
			t.Errorf("%q is missing in %s", part, got)
		}
	}
}

func TestReportsDependOnTheTextsOnly(t *testing.T) { // 44.2, 44.3
	r := rand.New(rand.NewSource(66))
	for range 150 {
		var l []fabric.Step
		for range r.Intn(150) {
			s := fabric.Step{Kind: []int{fabric.Tick, fabric.Turn, fabric.Timer, fabric.Timer, fabric.Update, fabric.Deliver, fabric.Deliver, fabric.Deliver, fabric.Drop, fabric.Twice, fabric.Inject, fabric.Hop, fabric.Crash, fabric.Start}[r.Intn(14)]}
			switch s.Kind {
			case fabric.Tick:
				s.N = r.Intn(60)
			case fabric.Turn:
				s.I, s.N = r.Intn(4), r.Intn(220)-110
			case fabric.Inject:
				s.I, s.N = r.Intn(3), r.Intn(3)
			case fabric.Crash, fabric.Start:
				s.I = r.Intn(5) - 1
			case fabric.Timer:
			default:
				s.N = r.Intn(2)
			}
			l = append(l, s)
		}
		steps := script.Text(l)
		got := report.Run(config, steps)
		if got != expected(t, config, steps) || got != report.Run(config, steps) || got != report.Run(config, "# comment\n"+steps+"\n") {
			t.Fatal(steps, got)
		}
		// One line for each step, event, record, trace, host and finding, and five more.
		x, _ := fabric.New(func() api.Config { c, _, _ := setup.Parse(config); return c }())
		script.Run(x, l)
		c, _, _ := setup.Parse(config)
		routes, _ := ctl.Check(c)
		if n := len(l) + len(x.Events()) + len(x.Ctl().Journal()) + len(trace.Of(x.Events())) + 2 + len(audit.Check(c.T, routes, x.Events())) + 5; strings.Count(got, "\n") != n {
			t.Fatal(n, got)
		}
	}
}
