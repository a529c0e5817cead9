package pred_test

import (
	"math"
	"math/rand"
	"slices"
	"testing"

	"turnout/api"
	"turnout/pred"
)

var (
	yes = pred.Pred{Kind: pred.True}
	no  = pred.Pred{Kind: pred.False}
)

func is(f, v int) pred.Pred { return pred.Pred{Kind: pred.Is, F: f, V: v} }

func not(p pred.Pred) pred.Pred { return pred.Pred{Kind: pred.Not, L: []pred.Pred{p}} }

func and(l ...pred.Pred) pred.Pred { return pred.Pred{Kind: pred.And, L: l} }

func or(l ...pred.Pred) pred.Pred { return pred.Pred{Kind: pred.Or, L: l} }

// some is a valid condition over few values.
func some(r *rand.Rand, deep int) pred.Pred {
	kind := 1 + r.Intn(6)
	if deep <= 1 {
		kind = 1 + r.Intn(3)
	}
	var l []pred.Pred
	switch kind {
	case pred.Is:
		return is(r.Intn(6), r.Intn(3))
	case pred.Not:
		l = append(l, some(r, deep-1))
	case pred.And, pred.Or:
		for range 2 + r.Intn(2) {
			l = append(l, some(r, deep-1))
		}
	}
	return pred.Pred{Kind: kind, L: l}
}

// nested is a condition of this depth: negations around True.
func nested(deep int) pred.Pred {
	p := yes
	for range deep - 1 {
		p = not(p)
	}
	return p
}

// large is a condition of this size, at most 65.
func large(size int) pred.Pred {
	outer := pred.Pred{Kind: pred.And}
	for size--; size > 0; {
		n := min(size, 9)
		if size-n == 1 {
			n--
		}
		size -= n
		if n == 1 {
			outer.L = append(outer.L, yes)
			continue
		}
		inner := pred.Pred{Kind: pred.Or}
		if n == 2 {
			inner.Kind = pred.Not
		}
		for range n - 1 {
			inner.L = append(inner.L, no)
		}
		outer.L = append(outer.L, inner)
	}
	return outer
}

func equal(a, b pred.Pred) bool {
	return a.Kind == b.Kind && a.F == b.F && a.V == b.V && slices.EqualFunc(a.L, b.L, equal)
}

func clone(p pred.Pred) pred.Pred {
	p.L = slices.Clone(p.L)
	for i := range p.L {
		p.L[i] = clone(p.L[i])
	}
	return p
}

func TestTop(t *testing.T) { // 26
	for f, want := range map[int]int{api.Src: 255, api.Dst: 255, api.Kind: 15, api.Tag: 255, api.Port: 7, api.Switch: 7, 6: 0, -1: 0, math.MaxInt: 0, math.MinInt: 0} {
		if pred.Top(f) != want {
			t.Error(f, pred.Top(f))
		}
	}
}

func TestRight(t *testing.T) { // 26.1
	nine := slices.Repeat([]pred.Pred{yes}, 9)
	cyclic := []pred.Pred{{Kind: pred.Not}}
	cyclic[0].L = cyclic
	for i, x := range []struct {
		p  pred.Pred
		is bool
	}{
		{yes, true}, {no, true}, {is(api.Dst, 255), true}, {is(api.Kind, 15), true}, {is(api.Port, 7), true}, {is(api.Switch, 0), true}, {not(yes), true}, {and(yes, no), true}, {or(yes, no, yes), true}, {and(nine[:8]...), true}, {or(nine[:8]...), true},
		{pred.Pred{}, false}, {pred.Pred{Kind: 7}, false}, {pred.Pred{Kind: -1}, false}, {pred.Pred{Kind: pred.True, F: 1}, false}, {pred.Pred{Kind: pred.True, V: 1}, false}, {pred.Pred{Kind: pred.True, L: []pred.Pred{yes}}, false}, {pred.Pred{Kind: pred.False, F: 1}, false}, {pred.Pred{Kind: pred.False, V: -1}, false},
		{pred.Pred{Kind: pred.False, L: []pred.Pred{yes}}, false}, {is(api.Dst, 256), false}, {is(api.Dst, -1), false}, {is(api.Kind, 16), false}, {is(api.Port, 8), false}, {is(api.Switch, 8), false}, {is(6, 0), false}, {is(-1, 0), false}, {pred.Pred{Kind: pred.Is, L: []pred.Pred{yes}}, false},
		{pred.Pred{Kind: pred.Not}, false}, {pred.Pred{Kind: pred.Not, L: []pred.Pred{yes, no}}, false}, {pred.Pred{Kind: pred.Not, F: 1, L: []pred.Pred{yes}}, false}, {pred.Pred{Kind: pred.Not, V: 1, L: []pred.Pred{yes}}, false}, {not(is(api.Dst, 256)), false},
		{and(), false}, {and(yes), false}, {or(), false}, {or(yes), false}, {and(nine...), false}, {or(nine...), false}, {and(yes, pred.Pred{}), false}, {or(pred.Pred{}, yes), false}, {pred.Pred{Kind: pred.And, F: 1, L: nine[:2]}, false}, {pred.Pred{Kind: pred.Or, V: 1, L: nine[:2]}, false},
		{nested(8), true}, {nested(9), false}, {and(yes, nested(7)), true}, {and(yes, nested(8)), false}, {large(64), true}, {large(65), false}, {cyclic[0], false}, {nested(100000), false},
	} {
		if pred.Right(x.p) != x.is {
			t.Errorf("%d: Right = %v", i, !x.is)
		}
	}
}

func TestSizeAndDeep(t *testing.T) { // 26.1
	for i, x := range []struct {
		p          pred.Pred
		size, deep int
	}{
		{yes, 1, 1}, {is(1, 1), 1, 1}, {not(yes), 2, 2}, {and(yes, no), 3, 2}, {or(and(yes, not(no)), yes, is(0, 0)), 7, 4}, {pred.Pred{Kind: 99, L: []pred.Pred{{Kind: -5}, not(yes)}}, 4, 3}, {pred.Pred{}, 1, 1}, {nested(50), 50, 50}, {large(64), 64, 3}, {large(65), 65, 3},
		{pred.Pred{Kind: pred.True, L: []pred.Pred{yes}}, 2, 2},
	} {
		if s, d := pred.Size(x.p), pred.Deep(x.p); s != x.size || d != x.deep {
			t.Errorf("%d: size %d, depth %d; want %d, %d", i, s, d, x.size, x.deep)
		}
	}
}

func TestSame(t *testing.T) { // 26.1
	r := rand.New(rand.NewSource(37))
	for range 3000 {
		a, b := some(r, 3), some(r, 3)
		if pred.Same(a, b) != equal(a, b) || !pred.Same(a, clone(a)) {
			t.Fatal(a, b)
		}
	}
	if pred.Same(is(1, 2), is(1, 3)) || pred.Same(is(1, 2), is(2, 2)) || pred.Same(and(yes, no), or(yes, no)) || pred.Same(and(yes, no), and(yes, no, no)) || pred.Same(and(yes, no), and(yes, yes)) || !pred.Same(yes, pred.Pred{Kind: pred.True, L: []pred.Pred{}}) {
		t.Error("Same")
	}
}

func TestGet(t *testing.T) { // 26.2
	p := api.Packet{10, 20, 30, 40}
	for f, want := range map[int]int{0: 10, 1: 20, 2: 30, 3: 40, api.Port: 6, api.Switch: 5, 6: -1, -1: -1, math.MaxInt: -1, math.MinInt: -1} {
		if n := pred.Get(f, 5, 6, p); n != want {
			t.Errorf("Get(%d) = %d", f, n)
		}
	}
}

// holds is the meaning of a valid condition.
func holds(p pred.Pred, values [6]int) bool {
	switch p.Kind {
	case pred.True:
		return true
	case pred.False:
		return false
	case pred.Is:
		return values[p.F] == p.V
	case pred.Not:
		return !holds(p.L[0], values)
	}
	for _, e := range p.L {
		if holds(e, values) != (p.Kind == pred.And) {
			return p.Kind == pred.Or
		}
	}
	return p.Kind == pred.And
}

func TestHitsAndPush(t *testing.T) { // 26.2, 26.4
	r := rand.New(rand.NewSource(38))
	for range 4000 {
		p := some(r, 5)
		before := clone(p)
		q := pred.Push(p)
		if !equal(p, before) || !pushed(q) || !equal(pred.Push(q), q) {
			t.Fatal(p, q)
		}
		for range 10 {
			var v [6]int
			for f := range v {
				v[f] = r.Intn(4)
			}
			k := api.Packet(v[:4])
			want := holds(p, v)
			if pred.Hits(p, v[5], v[4], k) != want || pred.Hits(q, v[5], v[4], k) != want {
				t.Fatal(p, q, v, want)
			}
		}
	}
	for i, x := range []struct {
		p  pred.Pred
		is bool
	}{
		{pred.Pred{}, false}, {pred.Pred{Kind: 7}, false}, {not(pred.Pred{Kind: 7}), true}, {pred.Pred{Kind: pred.Not}, false}, {not(pred.Pred{Kind: pred.Not}), true}, {is(6, 0), false}, {is(6, -1), false}, {is(-1, -1), false}, {not(is(6, -1)), true}, {pred.Pred{Kind: pred.Not, L: []pred.Pred{no, yes}}, true},
		{pred.Pred{Kind: pred.Not, L: []pred.Pred{yes, no}}, false}, {and(), true}, {or(), false},
	} {
		if pred.Hits(x.p, 0, 0, api.Packet{}) != x.is {
			t.Errorf("%d: Hits = %v", i, !x.is)
		}
	}
}

// pushed tells whether Not occurs only directly before Is.
func pushed(p pred.Pred) bool {
	if p.Kind == pred.Not {
		return p.L[0].Kind == pred.Is
	}
	return !slices.ContainsFunc(p.L, func(e pred.Pred) bool { return !pushed(e) })
}

func TestPush(t *testing.T) { // 26.2
	for i, x := range []struct{ p, want pred.Pred }{
		{not(or(is(1, 1), is(1, 2))), and(not(is(1, 1)), not(is(1, 2)))}, {not(and(is(1, 1), not(is(1, 2)), yes)), or(not(is(1, 1)), is(1, 2), no)}, {not(not(is(1, 1))), is(1, 1)}, {not(not(not(is(1, 1)))), not(is(1, 1))}, {not(yes), no}, {not(no), yes}, {yes, yes},
		{and(yes, or(no, not(not(no)))), and(yes, or(no, no))}, {not(not(and(not(yes), not(or(yes, is(0, 0)))))), and(no, and(no, not(is(0, 0))))}, {not(is(3, 3)), not(is(3, 3))}, {or(not(and(yes, no)), is(2, 2)), or(or(no, yes), is(2, 2))},
	} {
		if got := pred.Push(x.p); !equal(got, x.want) {
			t.Errorf("%d: %v; want %v", i, got, x.want)
		}
	}
	p := and(is(1, 1), not(is(2, 2)))
	q := pred.Push(p)
	q.L[0].V, q.L[1].L[0].V = 9, 9
	if !equal(p, and(is(1, 1), not(is(2, 2)))) {
		t.Error("Push shares memory")
	}
}

func TestWrongConditionsDoNotPanic(t *testing.T) { // P1
	for _, p := range []pred.Pred{{}, {Kind: pred.Not}, not(pred.Pred{Kind: pred.Not}), not(not(pred.Pred{Kind: pred.Not})), {Kind: 9, L: []pred.Pred{{}}}, and(), or(), not(pred.Pred{Kind: 9}), is(99, -1)} {
		pred.Push(p)
		pred.Text(p)
		pred.Values(p, 99)
	}
}

func TestConstants(t *testing.T) { // 26
	for i, kind := range []int{pred.True, pred.False, pred.Is, pred.Not, pred.And, pred.Or} {
		if kind != i+1 {
			t.Error(i, kind)
		}
	}
	if pred.Many != 8 {
		t.Error(pred.Many)
	}
}

func TestValues(t *testing.T) { // 26.3
	p := and(is(1, 5), not(is(1, 3)), or(is(1, 5), is(0, 7), not(not(is(1, 0)))), is(4, 2), is(5, 1))
	for f, want := range [][]int{{7}, {0, 3, 5}, nil, nil, {2}, {1}, nil} {
		if got := pred.Values(p, f); !slices.Equal(got, want) {
			t.Errorf("Values(%d) = %v", f, got)
		}
	}
	if len(pred.Values(p, -1)) != 0 || len(pred.Values(yes, 0)) != 0 || len(pred.Values(not(no), 0)) != 0 {
		t.Error("Values")
	}
	r := rand.New(rand.NewSource(39))
	for range 1000 { // 26.4
		p := some(r, 4)
		var a, b [6]int
		for f := range a {
			a[f], b[f] = r.Intn(5), r.Intn(5)
			if l := pred.Values(p, f); slices.Contains(l, a[f]) || slices.Contains(l, b[f]) {
				b[f] = a[f]
			}
		}
		if pred.Hits(p, a[5], a[4], api.Packet(a[:4])) != pred.Hits(p, b[5], b[4], api.Packet(b[:4])) {
			t.Fatal(p, a, b)
		}
	}
}

func TestText(t *testing.T) { // 26.3
	for _, x := range []struct {
		p    pred.Pred
		want string
	}{
		{yes, "true"}, {no, "false"}, {is(0, 1), "src = 1"}, {is(1, 255), "dst = 255"}, {is(2, 0), "kind = 0"}, {is(3, 7), "tag = 7"}, {is(4, 2), "port = 2"}, {is(5, 6), "switch = 6"}, {not(yes), "not true"}, {not(not(is(0, 1))), "not not src = 1"},
		{not(or(is(1, 1), is(1, 2))), "not (dst = 1 or dst = 2)"}, {and(not(is(1, 1)), not(is(1, 2))), "not dst = 1 and not dst = 2"}, {or(and(yes, no), no, not(and(yes, yes))), "(true and false) or false or not (true and true)"}, {and(and(yes, no), or(no, yes)), "(true and false) and (false or true)"},
		{or(or(yes, no), yes), "(true or false) or true"},
	} {
		if s := pred.Text(x.p); s != x.want {
			t.Errorf("%q; want %q", s, x.want)
		}
	}
}
