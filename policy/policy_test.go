package policy_test

import (
	"math"
	"math/rand"
	"slices"
	"testing"

	"turnout/api"
	"turnout/policy"
	"turnout/pred"
)

var (
	yes  = pred.Pred{Kind: pred.True}
	no   = pred.Pred{Kind: pred.False}
	id   = filter(yes)
	drop = filter(no)
)

func is(f, v int) pred.Pred { return pred.Pred{Kind: pred.Is, F: f, V: v} }

func filter(p pred.Pred) policy.Pol { return policy.Pol{Kind: policy.Filter, P: p} }

func set(f, v int) policy.Pol { return policy.Pol{Kind: policy.Set, F: f, V: v} }

func seq(l ...policy.Pol) policy.Pol { return policy.Pol{Kind: policy.Seq, L: l} }

func union(l ...policy.Pol) policy.Pol { return policy.Pol{Kind: policy.Union, L: l} }

func cond(p pred.Pred, a, b policy.Pol) policy.Pol {
	return policy.Pol{Kind: policy.If, P: p, L: []policy.Pol{a, b}}
}

func somePred(r *rand.Rand, deep int) pred.Pred {
	if deep <= 1 || r.Intn(2) == 0 {
		return []pred.Pred{yes, no, is(r.Intn(6), r.Intn(3)), is(r.Intn(6), r.Intn(3)), is(r.Intn(6), r.Intn(3))}[r.Intn(5)]
	}
	if r.Intn(3) == 0 {
		return pred.Pred{Kind: pred.Not, L: []pred.Pred{somePred(r, deep-1)}}
	}
	return pred.Pred{Kind: pred.And + r.Intn(2), L: []pred.Pred{somePred(r, deep-1), somePred(r, deep-1)}}
}

func some(r *rand.Rand, deep int) policy.Pol {
	kind := 1 + r.Intn(5)
	if deep <= 1 {
		kind = 1 + r.Intn(2)
	}
	switch kind {
	case policy.Filter:
		return filter(somePred(r, 3))
	case policy.Set:
		return set(r.Intn(5), r.Intn(3))
	case policy.If:
		return cond(somePred(r, 3), some(r, deep-1), some(r, deep-1))
	}
	x := policy.Pol{Kind: kind}
	for range 2 + r.Intn(2) {
		x.L = append(x.L, some(r, deep-1))
	}
	return x
}

func equal(a, b policy.Pol) bool {
	return a.Kind == b.Kind && pred.Same(a.P, b.P) && a.F == b.F && a.V == b.V && slices.EqualFunc(a.L, b.L, equal)
}

// nested is a policy of this depth.
func nested(deep int) policy.Pol {
	x := set(1, 1)
	for range deep - 1 {
		x = seq(x, set(1, 1))
	}
	return x
}

func times(n int, x policy.Pol) []policy.Pol { return slices.Repeat([]policy.Pol{x}, n) }

func TestRight(t *testing.T) { // 27.1
	cyclic := []policy.Pol{{Kind: policy.Seq}, set(1, 1)}
	cyclic[0].L = cyclic
	for i, x := range []struct {
		x  policy.Pol
		is bool
	}{
		{id, true}, {drop, true}, {filter(is(5, 7)), true}, {set(0, 255), true}, {set(2, 15), true}, {set(4, 7), true}, {set(4, 0), true}, {seq(id, drop), true}, {union(times(8, id)...), true}, {cond(is(1, 1), id, drop), true},
		{policy.Pol{}, false}, {policy.Pol{Kind: 6, P: yes}, false}, {policy.Pol{Kind: -1}, false}, {filter(pred.Pred{}), false}, {filter(is(1, 256)), false}, {policy.Pol{Kind: policy.Filter, P: yes, F: 1}, false}, {policy.Pol{Kind: policy.Filter, P: yes, V: 1}, false},
		{policy.Pol{Kind: policy.Filter, P: yes, L: times(1, id)}, false}, {set(5, 0), false}, {set(-1, 0), false}, {set(6, 0), false}, {set(2, 16), false}, {set(4, 8), false}, {set(0, 256), false}, {set(0, -1), false}, {policy.Pol{Kind: policy.Set, P: yes}, false}, {policy.Pol{Kind: policy.Set, P: pred.Pred{V: 1}}, false},
		{policy.Pol{Kind: policy.Set, L: times(1, id)}, false}, {seq(), false}, {seq(id), false}, {union(id), false}, {seq(times(9, set(1, 1))...), false}, {union(times(9, set(1, 1))...), false}, {seq(id, policy.Pol{}), false}, {union(set(2, 16), id), false},
		{policy.Pol{Kind: policy.Seq, F: 1, L: times(2, id)}, false}, {policy.Pol{Kind: policy.Seq, V: 1, L: times(2, id)}, false}, {policy.Pol{Kind: policy.Union, P: yes, L: times(2, id)}, false}, {policy.Pol{Kind: policy.Seq, P: yes, L: times(2, id)}, false}, {policy.Pol{Kind: policy.Union, V: 1, L: times(2, id)}, false},
		{policy.Pol{Kind: policy.If, P: yes, L: times(1, id)}, false}, {policy.Pol{Kind: policy.If, P: yes, L: times(3, id)}, false}, {policy.Pol{Kind: policy.If, L: times(2, id)}, false}, {policy.Pol{Kind: policy.If, P: yes, F: 1, L: times(2, id)}, false}, {policy.Pol{Kind: policy.If, P: yes, V: 1, L: times(2, id)}, false},
		{cond(yes, id, policy.Pol{}), false}, {nested(8), true}, {nested(9), false}, {cyclic[0], false}, {nested(100000), false},
	} {
		if policy.Right(x.x) != x.is {
			t.Errorf("%d: Right = %v", i, !x.is)
		}
	}
}

func TestRightLimits(t *testing.T) { // 27.1
	six := seq(union(set(1, 1), set(1, 2)), union(set(1, 1), set(1, 2)), union(set(1, 1), set(1, 2)), union(set(1, 1), set(1, 2)), union(set(1, 1), set(1, 2)), union(set(1, 1), set(1, 2)))
	if policy.Wide(six) != 64 || !policy.Right(six) {
		t.Error("a width of 64 is allowed")
	}
	eight, five := union(times(8, set(1, 1))...), union(times(5, set(1, 1))...)
	if x := seq(union(eight, five), five); policy.Wide(x) != 65 || policy.Size(x) > 64 || policy.Right(x) {
		t.Error("a width of 65 is not allowed")
	}
	more := seq(six.L[0], six.L[1], six.L[2], six.L[3], six.L[4], union(set(1, 1), set(1, 2), set(1, 3)))
	if policy.Wide(more) != 96 || policy.Size(more) != 20 || policy.Right(more) {
		t.Error("a width of 96 is not allowed")
	}
	seven := seq(times(7, seq(times(7, set(1, 1))...))...)
	size := func(rest ...policy.Pol) policy.Pol { return seq(append(slices.Clone(seven.L), rest...)...) }
	// seven has 57 policies; an If with two Sets has 3, and its condition more.
	six6 := pred.Pred{Kind: pred.And, L: []pred.Pred{yes, yes}}
	if x := size(cond(pred.Pred{Kind: pred.Not, L: []pred.Pred{six6}}, set(1, 1), set(1, 2))); policy.Size(x) != 64 || !policy.Right(x) {
		t.Error("a size of 64 is allowed", policy.Size(x))
	}
	six6.L = append(six6.L, yes)
	if x := size(cond(pred.Pred{Kind: pred.Not, L: []pred.Pred{six6}}, set(1, 1), set(1, 2))); policy.Size(x) != 65 || policy.Right(x) {
		t.Error("a size of 65 is not allowed", policy.Size(x))
	}
	if x := size(filter(pred.Pred{Kind: pred.And, L: []pred.Pred{yes, yes, yes, yes, yes, yes}})); policy.Size(x) != 65 || policy.Right(x) {
		t.Error("a size of 65 is not allowed", policy.Size(x))
	}
}

func TestConstants(t *testing.T) { // 27
	for i, kind := range []int{policy.Filter, policy.Set, policy.Seq, policy.Union, policy.If} {
		if kind != i+1 {
			t.Error(i, kind)
		}
	}
}

func TestSizeDeepWide(t *testing.T) { // 27.1
	odd := policy.Pol{Kind: 77, P: pred.Pred{Kind: pred.Not, L: []pred.Pred{yes}}, L: []policy.Pol{set(1, 1)}}
	for i, x := range []struct {
		x                policy.Pol
		size, deep, wide int
	}{
		{id, 2, 1, 1}, {set(1, 1), 1, 1, 1}, {seq(id, set(1, 1)), 4, 2, 1}, {union(id, set(1, 1)), 4, 2, 2}, {cond(pred.Pred{Kind: pred.Not, L: []pred.Pred{yes}}, id, union(id, id, drop)), 12, 3, 3}, {seq(union(id, id), union(id, id, id)), 13, 3, 6}, {odd, 4, 2, 1}, {policy.Pol{}, 2, 1, 1},
		{union(seq(union(id, id), union(id, id)), cond(yes, id, id)), 18, 4, 5}, {seq(), 1, 1, 1}, {union(), 1, 1, 0}, {seq(union(), union(id, id)), 7, 3, 0}, {cond(yes, union(id, id, id), drop), 11, 3, 3},
	} {
		if s, d, w := policy.Size(x.x), policy.Deep(x.x), policy.Wide(x.x); s != x.size || d != x.deep || w != x.wide {
			t.Errorf("%d: %d, %d, %d; want %d, %d, %d", i, s, d, w, x.size, x.deep, x.wide)
		}
	}
	ten := union(times(10, id)...)
	if policy.Wide(seq(ten, ten, ten)) != 1000 || policy.Wide(seq(ten, ten, ten, ten)) != 1000 || policy.Wide(seq(times(50, ten)...)) != 1000 || policy.Wide(union(seq(ten, ten, ten), id)) != 1000 || policy.Wide(seq(ten, ten, ten, ten, union())) != 0 {
		t.Error("Wide is limited")
	}
}

func TestSame(t *testing.T) { // 27.3
	r := rand.New(rand.NewSource(40))
	for range 2000 {
		a, b := some(r, 2), some(r, 2)
		if policy.Same(a, b) != equal(a, b) || !policy.Same(a, a) {
			t.Fatal(a, b)
		}
	}
	if policy.Same(set(1, 1), set(1, 2)) || policy.Same(set(1, 1), set(2, 1)) || policy.Same(id, drop) || policy.Same(seq(id, id), union(id, id)) || policy.Same(seq(id, id), seq(id, id, id)) || policy.Same(seq(id, drop), seq(id, id)) || !policy.Same(id, policy.Pol{Kind: policy.Filter, P: yes, L: []policy.Pol{}}) {
		t.Error("Same")
	}
}

// run is the meaning of a policy, as an ordered list without duplicates.
func run(x policy.Pol, sw int, s api.Sent) []api.Sent {
	var l []api.Sent
	switch x.Kind {
	case policy.Filter:
		if pred.Hits(x.P, sw, s.Port, s.P) {
			l = append(l, s)
		}
	case policy.Set:
		if x.F == api.Port {
			s.Port = x.V
		} else {
			s.P[x.F] = x.V
		}
		l = append(l, s)
	case policy.Seq:
		l = []api.Sent{s}
		for _, e := range x.L {
			var next []api.Sent
			for _, s := range l {
				next = append(next, run(e, sw, s)...)
			}
			l = next
		}
	case policy.Union:
		for _, e := range x.L {
			l = append(l, run(e, sw, s)...)
		}
	case policy.If:
		if pred.Hits(x.P, sw, s.Port, s.P) {
			return run(x.L[0], sw, s)
		}
		return run(x.L[1], sw, s)
	}
	slices.SortFunc(l, func(a, b api.Sent) int {
		return slices.Compare(append([]int{a.Port}, a.P[:]...), append([]int{b.Port}, b.P[:]...))
	})
	return slices.Compact(l)
}

func TestRun(t *testing.T) { // 27.2, 27.4
	p := api.Packet{1, 2, 3, 4}
	for i, x := range []struct {
		x    policy.Pol
		want []api.Sent
	}{
		{id, []api.Sent{{Port: 5, P: p}}}, {drop, nil}, {seq(set(1, 3), set(4, 1)), []api.Sent{{Port: 1, P: api.Packet{1, 3, 3, 4}}}}, {union(id, id, seq(set(0, 9), set(0, 1))), []api.Sent{{Port: 5, P: p}}}, {filter(is(5, 6)), []api.Sent{{Port: 5, P: p}}}, {filter(is(4, 5)), []api.Sent{{Port: 5, P: p}}},
		{seq(set(4, 1), filter(is(4, 5))), nil}, {seq(set(4, 1), filter(is(4, 1))), []api.Sent{{Port: 1, P: p}}}, {cond(is(3, 4), set(2, 0), drop), []api.Sent{{Port: 5, P: api.Packet{1, 2, 0, 4}}}}, {cond(is(3, 5), set(2, 0), drop), nil},
		{union(set(4, 7), set(3, 9), set(2, 9), set(1, 9), set(0, 9), set(4, 0)), []api.Sent{{Port: 0, P: p}, {Port: 5, P: api.Packet{1, 2, 3, 9}}, {Port: 5, P: api.Packet{1, 2, 9, 4}}, {Port: 5, P: api.Packet{1, 9, 3, 4}}, {Port: 5, P: api.Packet{9, 2, 3, 4}}, {Port: 7, P: p}}},
		{seq(union(set(4, 1), set(4, 2)), union(set(3, 0), id)), []api.Sent{{Port: 1, P: api.Packet{1, 2, 3, 0}}, {Port: 1, P: p}, {Port: 2, P: api.Packet{1, 2, 3, 0}}, {Port: 2, P: p}}},
	} {
		if got := policy.Run(x.x, 6, 5, p); !slices.Equal(got, x.want) {
			t.Errorf("%d: %v; want %v", i, got, x.want)
		}
	}
	r := rand.New(rand.NewSource(41))
	for range 3000 {
		x := some(r, 4)
		for range 5 {
			sw, port, p := r.Intn(3), r.Intn(3), api.Packet{r.Intn(3), r.Intn(3), r.Intn(3), r.Intn(3)}
			got := policy.Run(x, sw, port, p)
			if want := run(x, sw, api.Sent{Port: port, P: p}); !slices.Equal(got, want) || len(got) > policy.Wide(x) {
				t.Fatal(x, sw, port, p, got, want)
			}
		}
	}
}

func TestEquivalences(t *testing.T) { // 27.4
	r := rand.New(rand.NewSource(42))
	for range 1000 {
		a, b, c, p := some(r, 3), some(r, 3), some(r, 3), somePred(r, 3)
		parts := union(seq(filter(p), a), seq(filter(pred.Pred{Kind: pred.Not, L: []pred.Pred{p}}), b))
		k, sw, port := api.Packet{r.Intn(3), r.Intn(3), r.Intn(3), r.Intn(3)}, r.Intn(3), r.Intn(3)
		if !slices.Equal(policy.Run(cond(p, a, b), sw, port, k), policy.Run(parts, sw, port, k)) || !slices.Equal(policy.Run(union(a, b, c), sw, port, k), policy.Run(union(c, a, b), sw, port, k)) {
			t.Fatal(a, b, c, p, k)
		}
	}
}

func TestText(t *testing.T) { // 27.3
	for _, x := range []struct {
		x    policy.Pol
		want string
	}{
		{drop, "drop"}, {id, "id"}, {filter(is(1, 1)), "when dst = 1"}, {filter(pred.Pred{Kind: pred.Not, L: []pred.Pred{yes}}), "when not true"}, {filter(pred.Pred{Kind: pred.Or, L: []pred.Pred{yes, is(5, 2)}}), "when true or switch = 2"},
		{set(0, 1), "src := 1"}, {set(1, 2), "dst := 2"}, {set(2, 3), "kind := 3"}, {set(3, 255), "tag := 255"}, {set(4, 0), "port := 0"}, {seq(set(1, 3), set(4, 1)), "dst := 3; port := 1"}, {union(id, drop, id), "id | drop | id"},
		{union(seq(set(1, 3), set(4, 1)), drop), "(dst := 3; port := 1) | drop"}, {seq(union(id, drop), cond(is(1, 1), id, drop)), "(id | drop); (if dst = 1 then id else drop)"}, {cond(is(1, 1), set(4, 2), drop), "if dst = 1 then port := 2 else drop"},
		{cond(yes, seq(id, id), union(id, id)), "if true then (id; id) else (id | id)"}, {cond(yes, cond(no, id, drop), filter(is(1, 1))), "if true then (if false then id else drop) else when dst = 1"}, {seq(seq(id, id), id), "(id; id); id"}, {union(union(id, id), id), "(id | id) | id"},
	} {
		if s := policy.Text(x.x); s != x.want {
			t.Errorf("%q; want %q", s, x.want)
		}
	}
}

func TestValues(t *testing.T) { // 27.3
	x := seq(filter(is(1, 9)), set(1, 3), cond(pred.Pred{Kind: pred.And, L: []pred.Pred{is(1, 5), is(4, 2), is(5, 1)}}, union(set(1, 9), set(4, 1)), filter(is(1, 0))), set(4, 2))
	for f, want := range [][]int{nil, {0, 3, 5, 9}, nil, nil, {1, 2}, {1}, nil} {
		if got := policy.Values(x, f); !slices.Equal(got, want) {
			t.Errorf("Values(%d) = %v", f, got)
		}
	}
	if len(policy.Values(x, -1)) != 0 || len(policy.Values(x, math.MaxInt)) != 0 || len(policy.Values(id, 0)) != 0 || len(policy.Values(set(0, 0), 1)) != 0 || len(policy.Values(filter(is(0, 0)), 1)) != 0 {
		t.Error("Values")
	}
}

func TestWrongPoliciesDoNotPanic(t *testing.T) { // P1
	for _, x := range []policy.Pol{{}, {Kind: policy.If, P: yes}, {Kind: policy.If, P: no, L: []policy.Pol{id}}, {Kind: policy.Set, F: 99, V: -3}, {Kind: 9, L: []policy.Pol{{}}}, seq(), union()} {
		policy.Run(x, 0, 0, api.Packet{})
		policy.Text(x)
		policy.Right(x)
	}
}
