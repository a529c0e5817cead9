package tree_test

import (
	"math/rand"
	"slices"
	"testing"

	"turnout/api"
	"turnout/check"
	"turnout/parse"
	"turnout/policy"
	"turnout/pred"
	"turnout/tree"
)

func pol(t *testing.T, s string) policy.Pol {
	t.Helper()
	x, at, e := parse.Parse(s)
	if e != api.OK {
		t.Fatal(s, at, e)
	}
	return x
}

// known is a packet of which only some fields are known.
func known(fields ...int) api.Packet {
	p := api.Packet{-1, -1, -1, -1}
	for i := 0; i < len(fields); i += 2 {
		p[fields[i]] = fields[i+1]
	}
	return p
}

func equal(a, b []tree.Case) bool {
	return slices.EqualFunc(a, b, func(c, d tree.Case) bool { return c.Port == d.Port && c.P == d.P && slices.Equal(c.Out, d.Out) })
}

func TestCases(t *testing.T) { // 31.1
	any4 := known()
	to := func(ports ...int) []api.Sent {
		var l []api.Sent
		for _, port := range ports {
			l = append(l, api.Sent{Port: port, P: any4})
		}
		return l
	}
	for _, x := range []struct {
		s    string
		want []tree.Case
	}{
		{"if dst = 1 then port := 2 else drop", []tree.Case{{-1, known(1, 1), to(2)}, {-1, any4, nil}}}, {"id", []tree.Case{{-1, any4, to(-1)}}}, {"drop", []tree.Case{{-1, any4, nil}}}, {"port := 3", []tree.Case{{-1, any4, to(3)}}}, {"port := 1 | port := 0", []tree.Case{{-1, any4, to(0, 1)}}},
		{"when switch = 2; port := 1", []tree.Case{{-1, any4, to(1)}}}, {"when switch = 1; port := 1", []tree.Case{{-1, any4, nil}}}, {"when port = 5", []tree.Case{{5, any4, to(5)}, {-1, any4, nil}}}, {"when port = 5 or port = 1; port := 5", []tree.Case{{1, any4, to(5)}, {5, any4, to(5)}, {-1, any4, nil}}},
		{"dst := 1", []tree.Case{{-1, known(1, 1), to(-1)}, {-1, any4, []api.Sent{{Port: -1, P: known(1, 1)}}}}}, {"dst := 1 | id", []tree.Case{{-1, known(1, 1), to(-1)}, {-1, any4, []api.Sent{{Port: -1, P: any4}, {Port: -1, P: known(1, 1)}}}}},
		{"port := 2 | id", []tree.Case{{2, any4, to(2)}, {-1, any4, to(-1, 2)}}}, {"if port = 1 then port := 2 else when dst = 4", []tree.Case{{1, any4, to(2)}, {2, known(1, 4), to(2)}, {2, any4, nil}, {-1, known(1, 4), to(-1)}, {-1, any4, nil}}},
		{"when dst = 1 and src = 2; port := 3", []tree.Case{{-1, known(0, 2, 1, 1), to(3)}, {-1, known(0, 2), nil}, {-1, any4, nil}}}, {"when kind = 1 | when tag = 2", []tree.Case{{-1, known(2, 1), to(-1)}, {-1, known(3, 2), to(-1)}, {-1, any4, nil}}},
		{"when dst = 1; (src := 3 | src := 2); port := 1", []tree.Case{
			{-1, known(0, 2, 1, 1), []api.Sent{{Port: 1, P: any4}, {Port: 1, P: known(0, 3)}}}, {-1, known(0, 2), nil}, {-1, known(0, 3, 1, 1), []api.Sent{{Port: 1, P: any4}, {Port: 1, P: known(0, 2)}}}, {-1, known(0, 3), nil},
			{-1, known(1, 1), []api.Sent{{Port: 1, P: known(0, 2)}, {Port: 1, P: known(0, 3)}}}, {-1, any4, nil},
		}},
		{"when tag = 7 or tag = 3", []tree.Case{{-1, known(3, 3), to(-1)}, {-1, known(3, 7), to(-1)}, {-1, any4, nil}}},
	} {
		if got, e := tree.Cases(pol(t, x.s), 2); !equal(got, x.want) || e != api.OK {
			t.Errorf("Cases(%q) = %v, %d; want %v", x.s, got, e, x.want)
		}
	}
}

// wide has n values of a field, from 9 to 16.
func wide(f, n int) policy.Pol {
	x := policy.Pol{Kind: policy.Seq}
	for _, size := range []int{n / 2, n - n/2} {
		inner := policy.Pol{Kind: policy.Seq}
		for range size {
			inner.L = append(inner.L, policy.Pol{Kind: policy.Set, F: f, V: n})
			n--
		}
		x.L = append(x.L, inner)
	}
	return x
}

func seq(l ...policy.Pol) policy.Pol { return policy.Pol{Kind: policy.Seq, L: l} }

func TestErrors(t *testing.T) { // 31.1
	over := seq(wide(0, 15), wide(1, 15), wide(3, 16))
	full := seq(wide(0, 15), wide(1, 15), wide(3, 15))
	here := policy.Pol{Kind: policy.If, P: pred.Pred{Kind: pred.Is, F: api.Switch, V: 1}, L: []policy.Pol{over, {Kind: policy.Set}}}
	for i, x := range []struct {
		x  policy.Pol
		sw int
		e  api.Errno
	}{
		{policy.Pol{}, 0, api.ErrType}, {policy.Pol{Kind: policy.Set, F: 2, V: 16}, 0, api.ErrType}, {seq(over, policy.Pol{}), 0, api.ErrType}, {over, 0, api.ErrFull}, {full, 0, api.OK}, {here, 1, api.ErrFull}, {here, 0, api.OK}, {here, -1, api.OK}, {here, 99, api.OK},
	} {
		l, e := tree.Cases(x.x, x.sw)
		if e != x.e || (len(l) == 0) != (e != api.OK) || len(l) > check.Most {
			t.Errorf("%d: %d cases, %d; want %d", i, len(l), e, x.e)
		}
	}
}

func TestFindAndRun(t *testing.T) { // 31.2
	l := []tree.Case{{3, known(1, 4), nil}, {-1, known(0, 2, 1, 4), nil}, {2, known(), nil}}
	for _, x := range []struct {
		port int
		p    api.Packet
		want int
	}{{3, api.Packet{2, 4, 0, 0}, 0}, {2, api.Packet{2, 4, 0, 0}, 1}, {2, api.Packet{3, 4, 0, 0}, 2}, {1, api.Packet{3, 4, 0, 0}, -1}, {3, api.Packet{2, 5, 0, 0}, -1}, {7, api.Packet{2, 4, 9, 9}, 1}} {
		if i := tree.Find(l, x.port, x.p); i != x.want {
			t.Errorf("Find(%d, %v) = %d", x.port, x.p, i)
		}
	}
	if tree.Find(nil, 0, api.Packet{}) != -1 || tree.Find([]tree.Case{{-1, known(), nil}}, 5, api.Packet{1, 2, 3, 4}) != 0 {
		t.Error("Find")
	}
	c := tree.Case{Port: 1, P: known(), Out: []api.Sent{{Port: -1, P: known()}, {Port: 2, P: known(3, 9)}, {Port: 5, P: known(0, 0, 1, 0)}, {Port: 2, P: known(0, 0)}}}
	want := []api.Sent{{Port: 2, P: api.Packet{0, 7, 7, 7}}, {Port: 2, P: api.Packet{7, 7, 7, 9}}, {Port: 4, P: api.Packet{7, 7, 7, 7}}, {Port: 5, P: api.Packet{0, 0, 7, 7}}}
	if got := tree.Run(c, 4, api.Packet{7, 7, 7, 7}); !slices.Equal(got, want) || c.Out[0].Port != -1 {
		t.Error(got)
	}
	if got := tree.Run(tree.Case{}, 4, api.Packet{7, 7, 7, 7}); len(got) != 0 {
		t.Error(got)
	}
}

func somePred(r *rand.Rand, deep int) pred.Pred {
	if deep <= 1 || r.Intn(3) == 0 {
		return []pred.Pred{{Kind: pred.True}, {Kind: pred.Is, F: r.Intn(6), V: r.Intn(3)}, {Kind: pred.Is, F: r.Intn(6), V: r.Intn(3)}}[r.Intn(3)]
	}
	p := pred.Pred{Kind: pred.Not + r.Intn(3), L: []pred.Pred{somePred(r, deep-1)}}
	for range p.Kind - pred.Not {
		p.L = append(p.L, somePred(r, deep-1))
	}
	return p
}

func some(r *rand.Rand, deep int) policy.Pol {
	if deep <= 1 || r.Intn(4) == 0 {
		return []policy.Pol{{Kind: policy.Filter, P: somePred(r, 3)}, {Kind: policy.Set, F: r.Intn(5), V: r.Intn(3)}}[r.Intn(2)]
	}
	x := policy.Pol{Kind: policy.Seq + r.Intn(3), L: []policy.Pol{some(r, deep-1), some(r, deep-1)}}
	if x.Kind == policy.If {
		x.P = somePred(r, 3)
	}
	return x
}

func TestCasesHaveTheResultsOfThePolicy(t *testing.T) { // 31.3
	r := rand.New(rand.NewSource(47))
	for range 1000 {
		x, sw := some(r, 4), r.Intn(3)
		l, e := tree.Cases(x, sw)
		if !policy.Right(x) || check.Cells(check.At(x, sw)) > 4096 {
			if e == api.OK || len(l) != 0 {
				t.Fatal(x, e)
			}
			continue
		}
		if e != api.OK || len(l) == 0 || l[len(l)-1].Port != -1 || l[len(l)-1].P != known() {
			t.Fatal(x, l, e)
		}
		for i, c := range l {
			if !slices.IsSortedFunc(c.Out, compare) || len(slices.Compact(slices.Clone(c.Out))) != len(c.Out) || slices.ContainsFunc(l[:i], func(d tree.Case) bool { return d.Port == c.Port && d.P == c.P }) {
				t.Fatal(x, l, c)
			}
		}
		for range 40 {
			port, p := r.Intn(4), api.Packet{r.Intn(4), r.Intn(4), r.Intn(4), r.Intn(4)}
			if r.Intn(4) == 0 {
				port, p = 7, api.Packet{255, 255, 15, 255}
			}
			i := tree.Find(l, port, p)
			if i < 0 {
				t.Fatal(x, l, port, p)
			}
			if got, want := tree.Run(l[i], port, p), policy.Run(x, sw, port, p); !slices.Equal(got, want) {
				t.Fatal(x, l[i], port, p, got, want)
			}
		}
	}
}

func compare(a, b api.Sent) int {
	return slices.Compare(append([]int{a.Port}, a.P[:]...), append([]int{b.Port}, b.P[:]...))
}

// parts splits cases into those of each value of a field, and the last ones, of which nothing is known.
func parts(l []tree.Case, value func(c tree.Case) int) [][]tree.Case {
	var all [][]tree.Case
	for i, c := range l {
		if i == 0 || value(c) != value(l[i-1]) {
			all = append(all, nil)
		}
		all[len(all)-1] = append(all[len(all)-1], c)
	}
	return all
}

func TestCasesOfValuesDifferFromTheLastOnes(t *testing.T) { // 31.1
	r := rand.New(rand.NewSource(48))
	order := []int{api.Port, api.Src, api.Dst, api.Kind, api.Tag}
	value := func(c tree.Case, f int) int {
		if f == api.Port {
			return c.Port
		}
		return c.P[f]
	}
	var checkParts func(x policy.Pol, l []tree.Case, i int)
	checkParts = func(x policy.Pol, l []tree.Case, i int) {
		if i == len(order) {
			if len(l) != 1 {
				t.Fatal(x, l)
			}
			return
		}
		f := order[i]
		all := parts(l, func(c tree.Case) int { return value(c, f) })
		last := all[len(all)-1]
		before := -1
		for _, part := range all {
			checkParts(x, part, i+1)
			if v := value(part[0], f); v >= 0 && (v <= before || !slices.Contains(policy.Values(x, f), v)) || v < 0 && len(part) != len(last) {
				t.Fatal(x, part)
			}
			before = max(before, value(part[0], f))
			if value(part[0], f) >= 0 && slices.EqualFunc(part, last, func(c, d tree.Case) bool {
				if f == api.Port {
					c.Port = -1
				} else {
					c.P[f] = -1
				}
				return c.Port == d.Port && c.P == d.P && slices.Equal(c.Out, d.Out)
			}) {
				t.Fatal(x, part, last)
			}
		}
		if value(last[0], f) != -1 {
			t.Fatal(x, l)
		}
	}
	for range 1000 {
		x, sw := some(r, 4), r.Intn(3)
		if l, e := tree.Cases(x, sw); e == api.OK {
			checkParts(check.At(x, sw), l, 0)
		}
	}
}
