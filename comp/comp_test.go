package comp_test

import (
	"math/rand"
	"slices"
	"strconv"
	"strings"
	"testing"

	"turnout/act"
	"turnout/api"
	"turnout/check"
	"turnout/comp"
	"turnout/parse"
	"turnout/policy"
	"turnout/pred"
	"turnout/route"
	"turnout/rule"
	"turnout/short"
	"turnout/table"
	"turnout/topo"
	"turnout/tree"
)

func known(fields ...int) api.Packet {
	p := api.Packet{-1, -1, -1, -1}
	for i := 0; i < len(fields); i += 2 {
		p[fields[i]] = fields[i+1]
	}
	return p
}

func pol(t *testing.T, s string) policy.Pol {
	t.Helper()
	x, at, e := parse.Parse(s)
	if e != api.OK {
		t.Fatal(s, at, e)
	}
	return x
}

func texts(t []api.Rule) string {
	var l []string
	for _, x := range t {
		l = append(l, rule.Text(x))
	}
	return strings.Join(l, "; ")
}

func TestActs(t *testing.T) { // 32.1
	outs := func(n int, p api.Packet) []api.Sent { return slices.Repeat([]api.Sent{{Port: 1, P: p}}, n) }
	for i, x := range []struct {
		c    tree.Case
		want string
		e    api.Errno
	}{
		{tree.Case{Port: -1, P: known()}, "drop", api.OK}, {tree.Case{Port: -1, P: known(), Out: []api.Sent{{Port: 2, P: known()}}}, "out 2", api.OK}, {tree.Case{Port: 3, P: known(), Out: []api.Sent{{Port: -1, P: known()}}}, "out 3", api.OK}, {tree.Case{Port: 3, P: known(), Out: []api.Sent{{Port: 0, P: known()}}}, "out 0", api.OK},
		{tree.Case{Port: -1, P: known(1, 4), Out: []api.Sent{{Port: 2, P: known()}, {Port: 1, P: known(3, 9, 0, 5)}, {Port: 4, P: known(2, 0)}, {Port: 5, P: known()}, {Port: 6, P: known()}}}, "out 2, set src 5, set tag 9, out 1, back, set kind 0, out 4, back, out 5, out 6", api.OK},
		{tree.Case{Port: 0, P: known(), Out: []api.Sent{{Port: -1, P: known(1, 0)}, {Port: -1, P: known(1, 1)}}}, "set dst 0, out 0, back, set dst 1, out 0", api.OK},
		{tree.Case{Port: -1, P: known(), Out: []api.Sent{{Port: 2, P: known()}, {Port: -1, P: known()}}}, "drop", api.ErrPort}, {tree.Case{Port: -1, P: known(), Out: outs(16, known())}, strings.TrimSuffix(strings.Repeat("out 1, ", 16), ", "), api.OK}, {tree.Case{Port: -1, P: known(), Out: outs(17, known())}, "drop", api.ErrFull},
		{tree.Case{Port: -1, P: known(), Out: outs(6, known(1, 1))}, "drop", api.ErrFull}, {tree.Case{Port: -1, P: known(), Out: append(outs(20, known()), api.Sent{Port: -1, P: known()})}, "drop", api.ErrPort}, {tree.Case{Port: 1, P: known(), Out: append(outs(20, known()), api.Sent{Port: -1, P: known()})}, "drop", api.ErrFull},
	} {
		if got, e := comp.Acts(x.c); act.Text(got) != x.want || e != x.e {
			t.Errorf("%d: %s, %d; want %s, %d", i, act.Text(got), e, x.want, x.e)
		}
	}
	if got, e := comp.Acts(tree.Case{Port: -1, P: known(), Out: outs(5, known(1, 1))}); len(got) != 14 || e != api.OK {
		t.Error(got, e)
	}
}

func TestTable(t *testing.T) { // 32.2
	for _, x := range []struct {
		s    string
		room int
		want string
		e    api.Errno
	}{
		{"if dst = 1 then port := 2 else drop", 64, "2 dst 1: out 2; 1 any: drop", api.OK}, {"if dst = 1 then port := 2 else drop", 2, "2 dst 1: out 2; 1 any: drop", api.OK}, {"if dst = 1 then port := 2 else drop", 1, "", api.ErrFull}, {"port := 2", 0, "", api.ErrFull}, {"port := 2", -5, "", api.ErrFull},
		{"id", 64, "", api.ErrPort}, {"id", 0, "", api.ErrPort}, {"when port = 3", 64, "2 port 3: out 3; 1 any: drop", api.OK}, {"kind := 16", 64, "", api.ErrType},
		{"when switch = 1; port := 1", 64, "1 any: out 1", api.OK}, {"when switch = 0; port := 1", 64, "1 any: drop", api.OK}, {"port := 1; (dst := 1 | dst := 2 | dst := 3 | dst := 4 | dst := 5 | dst := 6)", 64, "", api.ErrFull},
	} {
		got, e := comp.Table(pol(t, x.s), 1, x.room)
		if e != x.e || e != api.OK && len(got) != 0 || texts(got) != x.want {
			t.Errorf("Table(%q, %d) = %q, %d; want %q, %d", x.s, x.room, texts(got), e, x.want, x.e)
		}
	}
	x := pol(t, "when port = 3 and kind = 2; (tag := 1 | dst := 5; port := 0)")
	cases, _ := tree.Cases(x, 1)
	got, e := comp.Table(x, 1, 64)
	if e != api.OK || len(got) != len(cases) {
		t.Fatal(got, e)
	}
	for i, c := range cases {
		want := api.Rule{Prio: len(cases) - i, M: api.Match{Port: c.Port}}
		for f, v := range c.P {
			if v >= 0 {
				want.M.Val[f], want.M.Mask[f] = v, []int{255, 255, 15, 255}[f]
			}
		}
		want.Acts, _ = comp.Acts(c)
		if !rule.Same(got[i], want) {
			t.Errorf("%d: %s; want %s", i, rule.Text(got[i]), rule.Text(want))
		}
	}
}

// net has three switches and uses the ports 0 to 4.
func net() api.Topo {
	return api.Topo{Switches: 3, Links: []api.Link{{A: 0, PortA: 1, B: 1, PortB: 0, Least: 1, Most: 1}, {A: 1, PortA: 1, B: 2, PortB: 0, Least: 1, Most: 1}}, Hosts: []api.Host{{At: 0, Port: 2}, {At: 1, Port: 3}, {At: 2, Port: 4}}}
}

func TestCompile(t *testing.T) { // 32.3
	got, at, e := comp.Compile("if switch = 1 then port := 2 else if dst = 1 then port := 0 else drop", net(), 64)
	if e != api.OK || at != 0 || len(got) != 3 || texts(got[0]) != "2 dst 1: out 0; 1 any: drop" || texts(got[1]) != "1 any: out 2" || texts(got[2]) != texts(got[0]) {
		t.Error(got, at, e)
	}
	bad := net()
	bad.Hosts[0].Port = 1
	for _, x := range []struct {
		s    string
		t    api.Topo
		room int
		at   int
		e    api.Errno
	}{
		{"port := 1 port", net(), 64, 10, api.ErrText}, {"?", net(), 64, 0, api.ErrText}, {"id ?", bad, 64, 3, api.ErrText}, {strings.Repeat("(", 501), net(), 64, 500, api.ErrFull}, {strings.Repeat(" ", 4001), net(), 64, 0, api.ErrSize}, {"port := 1", bad, 64, 0, api.ErrArg}, {"kind := 16", net(), 64, 0, api.ErrType},
		{"port := 7", net(), 64, 0, api.ErrPort}, {"when switch = 3", net(), 64, 0, api.ErrPort}, {"id", net(), 64, 0, api.ErrPort}, {"if switch = 2 then id else port := 1", net(), 64, 2, api.ErrPort}, {"if switch = 1 then (when dst = 1; port := 1) else port := 1", net(), 1, 1, api.ErrFull}, {"port := 1", net(), 0, 0, api.ErrFull},
		{"if switch = 0 then drop else (port := 1; (dst := 1 | dst := 2 | dst := 3 | dst := 4 | dst := 5 | dst := 6))", net(), 64, 1, api.ErrFull},
	} {
		if got, at, e := comp.Compile(x.s, x.t, x.room); len(got) != 0 || at != x.at || e != x.e {
			t.Errorf("Compile(%q) = %v, %d, %d; want %d, %d", x.s, got, at, e, x.at, x.e)
		}
	}
}

func somePred(r *rand.Rand, deep int) pred.Pred {
	if deep <= 1 || r.Intn(3) == 0 {
		return []pred.Pred{{Kind: pred.True}, {Kind: pred.Is, F: r.Intn(6), V: r.Intn(3)}, {Kind: pred.Is, F: r.Intn(6), V: r.Intn(3)}}[r.Intn(3)]
	}
	p := pred.Pred{Kind: pred.Not + r.Intn(3), L: []pred.Pred{somePred(r, deep-1)}}
	for range p.Kind - pred.Not {
		p.L = append(p.L, somePred(r, deep-1))
	}
	return p
}

func some(r *rand.Rand, deep int) policy.Pol {
	if deep <= 1 || r.Intn(4) == 0 {
		return []policy.Pol{{Kind: policy.Filter, P: somePred(r, 3)}, {Kind: policy.Set, F: r.Intn(5), V: r.Intn(3)}, {Kind: policy.Set, F: api.Port, V: r.Intn(5)}}[r.Intn(3)]
	}
	x := policy.Pol{Kind: policy.Seq + r.Intn(3), L: []policy.Pol{some(r, deep-1), some(r, deep-1)}}
	if x.Kind == policy.If {
		x.P = somePred(r, 3)
	}
	return x
}

// sorted are the packets that a table sends, in the order of a policy's results.
func sorted(l []api.Sent) []api.Sent {
	slices.SortFunc(l, func(a, b api.Sent) int {
		return slices.Compare(append([]int{a.Port}, a.P[:]...), append([]int{b.Port}, b.P[:]...))
	})
	return l
}

func TestTablesSendTheResultsOfThePolicy(t *testing.T) { // 32.4, T1
	r := rand.New(rand.NewSource(49))
	compiled := 0
	for range 2500 {
		x := some(r, 4)
		if policy.Right(x) && check.Cells(x) > 1500 {
			continue // only to be quick
		}
		s := policy.Text(x)
		tables, at, e := comp.Compile(s, net(), 4096)
		if e != api.OK {
			if len(tables) != 0 || at != 0 && e != api.ErrText && e != api.ErrPort && e != api.ErrFull {
				t.Fatal(s, tables, at, e)
			}
			continue
		}
		compiled++
		if len(tables) != 3 {
			t.Fatal(s, tables)
		}
		for sw, l := range tables {
			if !table.Right(l, 8, 4096) {
				t.Fatal(s, texts(l))
			}
			for range 15 {
				port, p := r.Intn(5), api.Packet{r.Intn(4), r.Intn(4), r.Intn(4), r.Intn(4)}
				if r.Intn(5) == 0 {
					port, p = r.Intn(8), api.Packet{r.Intn(256), r.Intn(256), r.Intn(16), r.Intn(256)}
				}
				if got, want := sorted(table.Run(l, port, p)), policy.Run(x, sw, port, p); !slices.Equal(got, want) {
					t.Fatal(s, sw, port, p, texts(l), got, want)
				}
			}
		}
	}
	if compiled < 200 {
		t.Error(compiled)
	}
}

func TestAnyTextGivesTablesOrAnError(t *testing.T) { // 32.4, T1
	r := rand.New(rand.NewSource(50))
	words := []string{"drop", "id", "when ", "if ", " then ", " else ", "(", ")", "; ", " | ", "dst", "port", " := ", " = ", "1", "3", "true", "not ", " and ", "?", "#", "\n"}
	for range 20000 {
		var s strings.Builder
		for range r.Intn(12) {
			s.WriteString(words[r.Intn(len(words))])
		}
		tables, at, e := comp.Compile(s.String(), net(), 64)
		if (e == api.OK) != (len(tables) == 3) || e != api.OK && len(tables) != 0 || e == api.OK && at != 0 || e < api.OK || e > api.ErrType {
			t.Fatal(s.String(), tables, at, e)
		}
	}
}

// written is a policy of routes: for each switch and host a sequence that sends to the port.
func written(r api.Routes) string {
	var l []string
	for sw, row := range r {
		var inner []string
		for h, port := range row {
			inner = append(inner, "when dst = "+strconv.Itoa(h)+"; port := "+strconv.Itoa(port))
		}
		l = append(l, "if switch = "+strconv.Itoa(sw)+" then ("+strings.Join(inner, " | ")+") else drop")
	}
	return strings.Join(l, " | ")
}

func TestRoutesAsPolicies(t *testing.T) { // T2
	r := rand.New(rand.NewSource(51))
	tried := 0
	for range 400 {
		x := api.Topo{Switches: 2 + r.Intn(2)}
		var w []float64
		for range 12 {
			next := x
			next.Links = append(slices.Clone(x.Links), api.Link{A: r.Intn(3), PortA: r.Intn(6), B: r.Intn(3), PortB: r.Intn(6), Least: 1, Most: 1})
			if topo.Right(next) {
				x, w = next, append(w, float64(r.Intn(5)))
			}
		}
		x.Hosts = []api.Host{{At: 0, Port: 6}, {At: 1, Port: 7}}
		routes, e := short.Routes(x, w)
		if e != api.OK {
			continue
		}
		tried++
		tables, at, e := comp.Compile(written(routes), x, 64)
		if e != api.OK {
			t.Fatal(written(routes), at, e)
		}
		for sw, l := range tables {
			for dst := range 5 {
				for port := range 8 {
					p := api.Packet{r.Intn(256), dst, r.Intn(16), r.Intn(256)}
					if got, want := table.Run(l, port, p), table.Run(route.Table(routes, sw), port, p); !slices.Equal(got, want) {
						t.Fatal(written(routes), sw, port, p, got, want)
					}
				}
			}
		}
	}
	if tried < 100 {
		t.Error(tried)
	}
}
