package check_test

import (
	"math/rand"
	"slices"
	"testing"

	"turnout/api"
	"turnout/check"
	"turnout/parse"
	"turnout/policy"
	"turnout/pred"
)

// net has two switches with the ports 0 to 3 in use.
func net() api.Topo {
	return api.Topo{Switches: 2, Links: []api.Link{{A: 0, PortA: 1, B: 1, PortB: 3, Least: 1, Most: 1}}, Hosts: []api.Host{{At: 0, Port: 0}, {At: 1, Port: 2}}}
}

func pol(t *testing.T, s string) policy.Pol {
	t.Helper()
	x, at, e := parse.Parse(s)
	if e != api.OK {
		t.Fatal(s, at, e)
	}
	return x
}

func cond(t *testing.T, s string) pred.Pred {
	t.Helper()
	x, at, e := parse.Cond(s)
	if e != api.OK {
		t.Fatal(s, at, e)
	}
	return x
}

func TestNamed(t *testing.T) { // 30.1
	for port, want := range map[int]bool{-1: false, 0: true, 1: true, 2: true, 3: true, 4: false, 7: false, 100: false} {
		if check.Named(net(), port) != want {
			t.Error(port)
		}
	}
	if check.Named(api.Topo{Switches: 3}, 0) || !check.Named(api.Topo{Hosts: []api.Host{{At: -4, Port: 9}}}, 9) {
		t.Error("Named")
	}
}

// wide has n values of a field, at most 48.
func wide(f, n int) policy.Pol {
	x := policy.Pol{Kind: policy.Seq}
	for n > 0 {
		inner := policy.Pol{Kind: policy.Seq}
		for range min(n, 8) {
			inner.L = append(inner.L, policy.Pol{Kind: policy.Set, F: f, V: n})
			n--
		}
		x.L = append(x.L, inner)
	}
	return x
}

func seq(l ...policy.Pol) policy.Pol { return policy.Pol{Kind: policy.Seq, L: l} }

func TestCells(t *testing.T) { // 30.1
	for _, x := range []struct {
		s string
		n int
	}{
		{"id", 1}, {"dst := 1", 2}, {"when dst = 1; dst := 1", 2}, {"when dst = 1 or dst = 2; dst := 3", 4}, {"src := 1; dst := 1; kind := 1; tag := 1; port := 1", 32}, {"when switch = 1 or switch = 0", 1}, {"if dst = 1 then port := 2 else src := 7", 8},
	} {
		if n := check.Cells(pol(t, x.s)); n != x.n {
			t.Errorf("Cells(%q) = %d; want %d", x.s, n, x.n)
		}
	}
	if check.Most != 4096 {
		t.Error(check.Most)
	}
	if n := check.Cells(seq(wide(0, 45), wide(1, 45), wide(3, 45))); n != 46*46*46 {
		t.Error(n)
	}
	if n := check.Cells(seq(wide(0, 46), wide(1, 46), wide(3, 46))); n != 100000 {
		t.Error(n)
	}
	if n := check.Cells(seq(wide(0, 48), wide(1, 48), wide(2, 48), wide(3, 48), wide(4, 48))); n != 100000 {
		t.Error(n)
	}
}

func TestCheck(t *testing.T) { // 30.1
	bad := net()
	bad.Hosts[0].Port = 1
	full := seq(wide(0, 15), wide(1, 15), wide(3, 15)) // 16 * 16 * 16
	over := seq(wide(0, 15), wide(1, 15), wide(3, 16))
	for i, x := range []struct {
		t api.Topo
		x policy.Pol
		e api.Errno
	}{
		{net(), pol(t, "if dst = 1 and switch = 1 then port := 2 else port := 1"), api.OK}, {bad, pol(t, "id"), api.ErrArg}, {bad, policy.Pol{}, api.ErrArg}, {net(), policy.Pol{}, api.ErrType}, {net(), pol(t, "kind := 16; port := 7"), api.ErrType}, {net(), pol(t, "port := 4"), api.ErrPort},
		{net(), pol(t, "when port = 4"), api.ErrPort}, {net(), pol(t, "when switch = 2"), api.ErrPort}, {net(), pol(t, "when not switch = 1"), api.OK}, {net(), pol(t, "when port = 0 or port = 1 or port = 2 or port = 3"), api.OK}, {net(), full, api.OK}, {net(), over, api.ErrFull},
		{net(), seq(over, policy.Pol{Kind: policy.Set, F: api.Port, V: 7}), api.ErrPort}, {net(), seq(full, policy.Pol{Kind: policy.Set, F: api.Port, V: 1}), api.ErrFull}, {api.Topo{}, pol(t, "id"), api.ErrArg},
	} {
		if e := check.Check(x.t, x.x); e != x.e {
			t.Errorf("%d: Check = %d; want %d", i, e, x.e)
		}
	}
}

func TestCut(t *testing.T) { // 30.2
	for _, x := range []struct{ p, want string }{
		{"switch = 2", "true"}, {"switch = 3", "false"}, {"not switch = 2", "false"}, {"not switch = 3", "true"}, {"switch = 2 and dst = 1", "dst = 1"}, {"switch = 3 and dst = 1", "false"}, {"switch = 2 or dst = 1", "true"}, {"switch = 3 or dst = 1", "dst = 1"}, {"switch = 2 and true", "true"},
		{"switch = 3 or false", "false"}, {"dst = 1 and true and dst = 2", "dst = 1 and dst = 2"}, {"dst = 1 or false or dst = 2", "dst = 1 or dst = 2"}, {"dst = 1 and src = 2", "dst = 1 and src = 2"}, {"not (switch = 2 and dst = 1)", "not dst = 1"}, {"not (switch = 3 and dst = 1)", "true"},
		{"not not dst = 1", "not not dst = 1"}, {"not not switch = 2", "true"}, {"(switch = 2 and dst = 1) or (switch = 3 and dst = 2)", "dst = 1"}, {"(switch = 2 or dst = 1) and (switch = 3 or dst = 2)", "dst = 2"}, {"port = 2", "port = 2"}, {"true", "true"}, {"false", "false"},
		{"(dst = 1 and dst = 2) and true", "dst = 1 and dst = 2"}, {"(dst = 1 and dst = 2) and src = 1", "(dst = 1 and dst = 2) and src = 1"}, {"(true and true) or (false or src = 1) or dst = 1", "true"}, {"(false and true) or (false or src = 1) or dst = 1", "src = 1 or dst = 1"}, {"not true and dst = 1", "false"},
	} {
		if got := check.Cut(cond(t, x.p), 2); !pred.Same(got, cond(t, x.want)) {
			t.Errorf("Cut(%q) = %q; want %q", x.p, pred.Text(got), x.want)
		}
	}
	if got := check.Cut(cond(t, "switch = 0"), -1); got.Kind != pred.False {
		t.Error(got)
	}
}

func TestAt(t *testing.T) { // 30.2
	for _, x := range []struct{ x, want string }{
		{"when switch = 2 and dst = 1", "when dst = 1"}, {"when switch = 2", "id"}, {"when switch = 3", "drop"}, {"if switch = 2 then port := 1 else drop", "port := 1"}, {"if switch = 3 then port := 1 else drop", "drop"}, {"if switch = 2 and dst = 1 then when switch = 2 else when switch = 3", "if dst = 1 then id else drop"},
		{"if switch = 3 then port := 1 else if switch = 2 then port := 2 else port := 3", "port := 2"}, {"(when switch = 2); (when switch = 3 | id)", "id; (drop | id)"}, {"dst := 2 | dst := 3", "dst := 2 | dst := 3"}, {"id; (if true then (id | drop) else drop)", "id; (id | drop)"}, {"if dst = 1 then id else drop", "if dst = 1 then id else drop"},
	} {
		if got := check.At(pol(t, x.x), 2); !policy.Same(got, pol(t, x.want)) {
			t.Errorf("At(%q) = %q; want %q", x.x, policy.Text(got), x.want)
		}
	}
}

func somePred(r *rand.Rand, deep int) pred.Pred {
	if deep <= 1 || r.Intn(3) == 0 {
		return []pred.Pred{{Kind: pred.True}, {Kind: pred.False}, {Kind: pred.Is, F: r.Intn(6), V: r.Intn(3)}, {Kind: pred.Is, F: api.Switch, V: r.Intn(3)}}[r.Intn(4)]
	}
	p := pred.Pred{Kind: pred.Not + r.Intn(3), L: []pred.Pred{somePred(r, deep-1)}}
	for range p.Kind - pred.Not {
		p.L = append(p.L, somePred(r, deep-1))
	}
	return p
}

func some(r *rand.Rand, deep int) policy.Pol {
	if deep <= 1 || r.Intn(3) == 0 {
		return []policy.Pol{{Kind: policy.Filter, P: somePred(r, 4)}, {Kind: policy.Set, F: r.Intn(5), V: r.Intn(3)}}[r.Intn(2)]
	}
	x := policy.Pol{Kind: policy.Seq + r.Intn(3), L: []policy.Pol{some(r, deep-1), some(r, deep-1)}}
	if x.Kind == policy.If {
		x.P = somePred(r, 4)
	}
	return x
}

// simple tells whether no condition can be simplified any more.
func simple(p pred.Pred) bool {
	for _, e := range p.L {
		if e.Kind == pred.True || e.Kind == pred.False || !simple(e) {
			return false
		}
	}
	return p.Kind != pred.Is || p.F != api.Switch
}

func TestSpecializedPoliciesHaveTheSameResults(t *testing.T) { // 30.3
	r := rand.New(rand.NewSource(46))
	for range 3000 {
		p := somePred(r, 5)
		x := some(r, 4)
		sw := r.Intn(3)
		q, y := check.Cut(p, sw), check.At(x, sw)
		if !simple(q) || len(policy.Values(y, api.Switch)) != 0 || policy.Right(x) && !policy.Right(y) || pred.Right(p) && !pred.Right(q) {
			t.Fatal(p, q, x, y)
		}
		for range 10 {
			port, k := r.Intn(3), api.Packet{r.Intn(3), r.Intn(3), r.Intn(3), r.Intn(3)}
			if pred.Hits(p, sw, port, k) != pred.Hits(q, sw, port, k) || !slices.Equal(policy.Run(x, sw, port, k), policy.Run(y, sw, port, k)) {
				t.Fatal(p, q, x, y, port, k)
			}
		}
	}
}

func TestArgumentsAreNotShared(t *testing.T) { // 30.2 with R4
	x := pol(t, "if dst = 1 and src = 2 then (id; port := 1) else (drop | id)")
	before := policy.Text(x)
	y := check.At(x, 0)
	y.L[0].L[1].V = 5
	y.P.L[0].V = 9
	if policy.Text(x) != before {
		t.Error(policy.Text(x))
	}
	for _, wrong := range []policy.Pol{{Kind: policy.If, P: pred.Pred{Kind: pred.True}}, {Kind: 9}, {Kind: policy.Filter, P: pred.Pred{Kind: pred.Not}}} {
		check.At(wrong, 0) // does not panic
	}
}
