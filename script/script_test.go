package script_test

import (
	"math"
	"math/rand"
	"slices"
	"strings"
	"testing"

	"turnout/api"
	"turnout/fabric"
	"turnout/script"
)

func step(kind, i, n int) fabric.Step { return fabric.Step{Kind: kind, I: i, N: n} }

// shapes lists the word of each kind, and the numbers of its line.
var shapes = []struct{ word, numbers string }{
	{"?", ""}, {"tick", "N"}, {"turn", "IN"}, {"timer", ""}, {"update", "N"}, {"deliver", "N"}, {"drop", "N"}, {"twice", "N"}, {"inject", "IN"}, {"hop", "N"}, {"crash", "I"}, {"start", "I"}, {"?", ""},
}

func TestWord(t *testing.T) { // 39.2
	for kind, x := range shapes {
		if w := script.Word(kind); w != x.word {
			t.Errorf("Word(%d) = %q", kind, w)
		}
	}
	if script.Word(-1) != "?" || script.Word(math.MaxInt) != "?" || script.Word(math.MinInt) != "?" {
		t.Error("Word")
	}
}

func TestMay(t *testing.T) { // 39.1
	for kind := -1; kind <= 13; kind++ {
		for _, i := range []int{math.MinInt, -2, -1, 0, 1, 15, 16, math.MaxInt} {
			for _, n := range []int{math.MinInt, -1001, -1000, -1, 0, 1, 1 << 20, 1<<20 + 1, math.MaxInt} {
				want := kind >= 1 && kind <= 11 && i >= -1 && i <= 15 && n >= -1000 && n <= 1<<20
				if want {
					letters := shapes[kind].numbers
					want = (i == 0 || strings.Contains(letters, "I")) && (n == 0 || strings.Contains(letters, "N"))
				}
				s := step(kind, i, n)
				if script.May(s) != want || (script.Line(s) != "") != want || (script.Text([]fabric.Step{s}) != "") != want {
					t.Errorf("May(%v) = %v", s, !want)
				}
			}
		}
	}
}

func TestLinesAndText(t *testing.T) { // 39.1
	l := []fabric.Step{step(fabric.Tick, 0, 5), step(fabric.Turn, 1, -30), step(fabric.Timer, 0, 0), step(fabric.Update, 0, 2), step(fabric.Deliver, 0, 0), step(fabric.Drop, 0, 1), step(fabric.Twice, 0, 1<<20), step(fabric.Inject, 3, 4), step(fabric.Hop, 0, -1000), step(fabric.Crash, -1, 0), step(fabric.Start, 15, 0)}
	const want = "tick 5\nturn 1 -30\ntimer\nupdate 2\ndeliver 0\ndrop 1\ntwice 1048576\ninject 3 4\nhop -1000\ncrash -1\nstart 15\n"
	if s := script.Text(l); s != want {
		t.Errorf("%q", s)
	}
	for i, line := range strings.Split(strings.TrimSuffix(want, "\n"), "\n") {
		if s := script.Line(l[i]); s != line {
			t.Errorf("%q; want %q", s, line)
		}
	}
	if got, n, e := script.Parse(want); !slices.Equal(got, l) || n != 0 || e != api.OK {
		t.Error(got, n, e)
	}
	if got, n, e := script.Parse(strings.TrimSuffix(want, "\n")); !slices.Equal(got, l) || n != 0 || e != api.OK {
		t.Error(got, n, e)
	}
	if s := script.Text(append(l, step(fabric.Timer, 1, 0))); s != "" {
		t.Errorf("%q", s)
	}
	if script.Text(nil) != "" {
		t.Error("no steps")
	}
}

func TestParse(t *testing.T) { // 39.1
	one := []fabric.Step{step(fabric.Tick, 0, 1)}
	for _, x := range []struct {
		s    string
		want []fabric.Step
	}{{"", nil}, {"\n\n", nil}, {"#", nil}, {"# tick 1\n#\n", nil}, {"\n#x\ntick 1\n\n# end", one}, {"tick 1", one}, {"tick 1\n", one}, {"#?\ntick 1\n#", one}} {
		if got, n, e := script.Parse(x.s); !slices.Equal(got, x.want) || n != 0 || e != api.OK {
			t.Errorf("Parse(%q) = %v, %d, %d", x.s, got, n, e)
		}
	}
	for _, x := range []struct {
		s    string
		line int
	}{
		{"tick", 1}, {"tick ", 1}, {"tick 1 ", 1}, {" tick 1", 1}, {"tick  1", 1}, {"tick 1 2", 1}, {"tick x", 1}, {"tick +1", 1}, {"tick 01", 1}, {"tick -0", 1}, {"tick 00", 1}, {"tick 1048577", 1}, {"tick -1001", 1}, {"tick 99999999999999999999", 1}, {"Tick 1", 1}, {"?", 1}, {"? 1", 1}, {" ", 1}, {" # x", 1},
		{"timer 0", 1}, {"timer ", 1}, {"turn 1", 1}, {"turn 16 1", 1}, {"turn -2 1", 1}, {"turn 1 1 1", 1}, {"crash", 1}, {"crash 16", 1}, {"crash -2", 1}, {"crash 1 0", 1}, {"inject 1", 1}, {"tick 1\r\n", 1}, {"tick\t1", 1}, {"tick 1\n\n# x\ntock\n", 4}, {"tick 1\ntick 1\ntick", 3}, {"tick 1 # x", 1}, {"x\n?\n", 1}, {"tick 1\x00", 1},
	} {
		if got, n, e := script.Parse(x.s); len(got) != 0 || n != x.line || e != api.ErrText {
			t.Errorf("Parse(%q) = %v, %d, %d; want %d", x.s, got, n, e, x.line)
		}
	}
}

func TestRun(t *testing.T) { // 39.2
	c := api.Config{T: api.Topo{Switches: 1, Hosts: []api.Host{{At: 0, Port: 2}}}, Weights: [][]uint64{nil}, Starts: []int{0}, Rate: 30, Room: 1, Retry: 1}
	l, _, _ := script.Parse("tick 5\nturn 1 -30\nturn 0 -31\nturn 0 -30\ntimer\nupdate 0\ndeliver 0\ndeliver 1\ninject 0 1\ninject 0 0\nstart -1\ntick -1")
	l = append(l, step(99, 0, 0))
	want := []api.Errno{api.OK, api.ErrNone, api.ErrArg, api.OK, api.OK, api.ErrNone, api.OK, api.ErrNone, api.ErrNone, api.OK, api.ErrState, api.ErrArg, api.ErrKind}
	x, _ := fabric.New(c)
	y, _ := fabric.New(c)
	if got := script.Run(x, l); !slices.Equal(got, want) {
		t.Error(got)
	}
	for i, s := range l {
		if e := y.Do(s); e != want[i] {
			t.Error(i, e)
		}
	}
	if !slices.Equal(x.Events(), y.Events()) || x.Real() != 5 || x.Real() != y.Real() {
		t.Error(x.Events(), y.Events())
	}
	if got := script.Run(nil, l[:2]); !slices.Equal(got, []api.Errno{api.ErrNil, api.ErrNil}) || len(script.Run(x, nil)) != 0 {
		t.Error(got)
	}
	// The clock of the switch runs slower.
	script.Run(x, []fabric.Step{step(fabric.Tick, 0, 1000)})
	if x.Clock(0) != 975 {
		t.Error(x.Clock(0))
	}
}

func TestParsedAsWritten(t *testing.T) { // 39.3
	r := rand.New(rand.NewSource(59))
	for range 1000 {
		var l []fabric.Step
		for range r.Intn(20) {
			s := step(1+r.Intn(11), 0, 0)
			if strings.Contains(shapes[s.Kind].numbers, "I") {
				s.I = r.Intn(17) - 1
			}
			if strings.Contains(shapes[s.Kind].numbers, "N") {
				s.N = []int{-1000, 1 << 20, r.Intn(5), r.Intn(1<<20+1001) - 1000}[r.Intn(4)]
			}
			l = append(l, s)
		}
		text := script.Text(l)
		if got, n, e := script.Parse(text); !slices.Equal(got, l) || n != 0 || e != api.OK {
			t.Fatal(l, got, n, e)
		}
		var more strings.Builder
		for _, line := range strings.SplitAfter(text, "\n") {
			more.WriteString([]string{"", "\n", "# tick 1\n", "#\n\n"}[r.Intn(4)] + line)
		}
		if got, n, e := script.Parse(more.String()); !slices.Equal(got, l) || n != 0 || e != api.OK {
			t.Fatalf("%q: %v, %d, %d", more.String(), got, n, e)
		}
	}
}
