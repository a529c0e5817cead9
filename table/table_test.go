package table_test

import (
	"math/rand"
	"slices"
	"testing"

	"turnout/act"
	"turnout/api"
	"turnout/match"
	"turnout/rule"
	"turnout/table"
)

var all = api.Match{Port: -1}

func out(port int) []api.Act { return []api.Act{{Kind: api.Out, V: port}} }

func plain(prio, dst, port int) api.Rule { return rule.Plain(api.Dst, dst, prio, port) }

func equal(a, b []api.Rule) bool {
	return slices.EqualFunc(a, b, func(x, y api.Rule) bool { return x.Prio == y.Prio && x.M == y.M && slices.Equal(x.Acts, y.Acts) })
}

func deep(t []api.Rule) []api.Rule {
	c := slices.Clone(t)
	for i := range c {
		c[i].Acts = slices.Clone(c[i].Acts)
	}
	return c
}

// someRule is a valid rule for 4 ports, of few priorities and matches.
func someRule(r *rand.Rand) api.Rule {
	x := api.Rule{Prio: r.Intn(3), M: api.Match{Port: r.Intn(3) - 1}}
	for f := range 2 {
		x.M.Mask[f] = r.Intn(4)
		x.M.Val[f] = r.Intn(4) & x.M.Mask[f]
	}
	for range r.Intn(3) {
		x.Acts = append(x.Acts, api.Act{Kind: api.Out, V: r.Intn(4)})
	}
	return x
}

// someMod is a modification that is nearly always valid.
func someMod(r *rand.Rand, t []api.Rule) api.Mod {
	m := api.Mod{Kind: 1 + r.Intn(5), R: someRule(r), Check: r.Intn(3) == 0}
	if len(t) > 0 && r.Intn(2) == 0 {
		x := t[r.Intn(len(t))]
		m.R.Prio, m.R.M = x.Prio, x.M
	}
	switch r.Intn(30) {
	case 0:
		m.Kind = []int{0, 6, -1}[r.Intn(3)]
	case 1:
		m.R.Prio = -1
	case 2:
		m.R.Acts = out(4)
	}
	return m
}

// model applies a modification as the document says it, to a table of its own.
func model(t []api.Rule, m api.Mod, ports, room int) ([]api.Rule, api.Errno) {
	t = deep(t)
	if m.Kind < 1 || m.Kind > 5 || !rule.Right(m.R, ports) {
		return t, api.ErrArg
	}
	at := -1
	for i, x := range t {
		if m.Kind == api.Add && m.Check && rule.Overlaps(x, m.R) {
			return t, api.ErrOverlap
		}
		if x.Prio == m.R.Prio && x.M == m.R.M {
			at = i
		}
	}
	var kept []api.Rule
	switch m.Kind {
	case api.Add:
		if at >= 0 {
			t[at].Acts = m.R.Acts
			return t, api.OK
		}
		if len(t) >= room {
			return t, api.ErrFull
		}
		n := 0
		for n < len(t) && t[n].Prio >= m.R.Prio {
			n++
		}
		return slices.Concat(t[:n], []api.Rule{m.R}, t[n:]), api.OK
	case api.Modify, api.Delete:
		for _, x := range t {
			if match.Within(x.M, m.R.M) {
				if m.Kind == api.Delete {
					continue
				}
				x.Acts = m.R.Acts
			}
			kept = append(kept, x)
		}
		return kept, api.OK
	}
	if at < 0 {
		return t, api.ErrNone
	}
	if m.Kind == api.ModifyStrict {
		t[at].Acts = m.R.Acts
		return t, api.OK
	}
	return slices.Delete(t, at, at+1), api.OK
}

func TestRight(t *testing.T) { // 11.1
	a, b, c := plain(20, 3, 1), plain(20, 4, 2), api.Rule{Prio: 10, M: all, Acts: out(1)}
	for i, x := range []struct {
		t           []api.Rule
		ports, room int
		is          bool
	}{
		{nil, 0, 0, true}, {nil, 8, -1, false}, {[]api.Rule{a, b, c}, 8, 3, true}, {[]api.Rule{a, b, c}, 8, 2, false}, {[]api.Rule{b, a, c}, 8, 64, true}, {[]api.Rule{c, a, b}, 8, 64, false}, {[]api.Rule{a, c, b}, 8, 64, false},
		{[]api.Rule{a, b, a}, 8, 64, false}, {[]api.Rule{a, plain(20, 3, 7)}, 8, 64, false}, {[]api.Rule{a, plain(10, 3, 1)}, 8, 64, true}, {[]api.Rule{a, b, c}, 2, 64, false}, {[]api.Rule{a, b, c}, 3, 64, true}, {[]api.Rule{plain(-1, 3, 1)}, 8, 64, false},
		{[]api.Rule{{Prio: 20, M: api.Match{Port: 0}}, {Prio: 20, M: all}}, 8, 64, true},
	} {
		if table.Right(x.t, x.ports, x.room) != x.is {
			t.Errorf("%d: Right = %v", i, !x.is)
		}
	}
}

func TestFindRunSame(t *testing.T) { // 11.1
	l := []api.Rule{plain(20, 3, 2), {Prio: 15, M: api.Match{Port: 5}}, {Prio: 10, M: api.Match{Port: -1, Val: [4]int{0, 0, 1, 0}, Mask: [4]int{0, 0, 1, 0}}, Acts: out(1)}}
	for _, x := range []struct {
		port int
		p    api.Packet
		want int
	}{{0, api.Packet{0, 3, 0, 0}, 0}, {5, api.Packet{0, 3, 0, 0}, 0}, {5, api.Packet{0, 4, 1, 0}, 1}, {4, api.Packet{0, 4, 3, 0}, 2}, {4, api.Packet{0, 4, 2, 0}, -1}} {
		if i := table.Find(l, x.port, x.p); i != x.want {
			t.Errorf("Find(%d, %v) = %d", x.port, x.p, i)
		}
		var want []api.Sent
		if x.want >= 0 {
			want = act.Run(l[x.want].Acts, x.p)
		}
		if got := table.Run(l, x.port, x.p); !slices.Equal(got, want) {
			t.Errorf("Run(%d, %v) = %v", x.port, x.p, got)
		}
	}
	if table.Find(nil, 0, api.Packet{}) != -1 || len(table.Run(nil, 0, api.Packet{})) != 0 {
		t.Error("empty table")
	}
	if !table.Same(l, deep(l)) || table.Same(l, l[:2]) || table.Same(l[:2], l) || table.Same(l, []api.Rule{l[1], l[0], l[2]}) || !table.Same(nil, []api.Rule{}) {
		t.Error("Same")
	}
	other := deep(l)
	other[2].Acts[0].V = 7
	if table.Same(l, other) {
		t.Error("Same ignores actions")
	}
}

func TestAdd(t *testing.T) { // 11.2
	a, b := api.Rule{Prio: 10, M: all, Acts: out(1)}, plain(20, 3, 2)
	l, e := table.Apply([]api.Rule{a}, api.Mod{Kind: api.Add, R: b}, 8, 64)
	if e != api.OK || !equal(l, []api.Rule{b, a}) {
		t.Error(l, e)
	}
	l, e = table.Apply(l, api.Mod{Kind: api.Add, R: plain(20, 4, 5)}, 8, 64)
	if e != api.OK || !equal(l, []api.Rule{b, plain(20, 4, 5), a}) {
		t.Error(l, e)
	}
	for i, x := range []struct {
		m    api.Mod
		room int
		want []api.Rule
		e    api.Errno
	}{
		{api.Mod{Kind: api.Add, R: plain(20, 5, 1)}, 3, l, api.ErrFull}, {api.Mod{Kind: api.Add, R: plain(20, 4, 7)}, 3, []api.Rule{b, plain(20, 4, 7), a}, api.OK}, {api.Mod{Kind: api.Add, R: plain(10, 3, 7), Check: true}, 3, l, api.ErrOverlap},
		{api.Mod{Kind: api.Add, R: plain(10, 3, 7)}, 4, append(deep(l), plain(10, 3, 7)), api.OK}, {api.Mod{Kind: api.Add, R: plain(20, 5, 7), Check: true}, 4, []api.Rule{b, plain(20, 4, 5), plain(20, 5, 7), a}, api.OK},
		{api.Mod{Kind: api.Add, R: api.Rule{Prio: 10, M: all}, Check: true}, 3, []api.Rule{b, plain(20, 4, 5), {Prio: 10, M: all}}, api.OK}, {api.Mod{Kind: api.Add, R: plain(5, 3, 1), Check: true}, 4, append(deep(l), plain(5, 3, 1)), api.OK},
		{api.Mod{Kind: api.Add, R: plain(30, 9, 1)}, 4, append([]api.Rule{plain(30, 9, 1)}, l...), api.OK}, {api.Mod{Kind: api.Add, R: plain(20, 9, 8)}, 4, l, api.ErrArg}, {api.Mod{Kind: 0, R: b}, 4, l, api.ErrArg}, {api.Mod{Kind: 6, R: b}, 4, l, api.ErrArg},
	} {
		got, e := table.Apply(l, x.m, 8, x.room)
		if e != x.e || !equal(got, x.want) {
			t.Errorf("%d: %v, %d; want %v, %d", i, got, e, x.want, x.e)
		}
	}
}

func TestModifyAndDelete(t *testing.T) { // 11.2
	l := []api.Rule{plain(20, 3, 2), {Prio: 20, M: api.Match{Port: 1, Val: [4]int{0, 3, 0, 0}, Mask: [4]int{0, 255, 0, 0}}, Acts: out(3)}, plain(10, 4, 4), {Prio: 5, M: all, Acts: out(5)}}
	at := func(i int, acts []api.Act) []api.Rule {
		c := deep(l)
		c[i].Acts = acts
		return c
	}
	both := deep(l)
	both[0].Acts, both[1].Acts = out(7), out(7)
	every := deep(l)
	for i := range every {
		every[i].Acts = nil
	}
	for i, x := range []struct {
		m    api.Mod
		want []api.Rule
		e    api.Errno
	}{
		{api.Mod{Kind: api.Modify, R: plain(1, 3, 7)}, both, api.OK}, {api.Mod{Kind: api.Modify, R: plain(20, 9, 7)}, l, api.OK}, {api.Mod{Kind: api.Modify, R: api.Rule{M: all}}, every, api.OK}, {api.Mod{Kind: api.ModifyStrict, R: plain(20, 3, 7)}, at(0, out(7)), api.OK},
		{api.Mod{Kind: api.ModifyStrict, R: plain(10, 3, 7)}, l, api.ErrNone}, {api.Mod{Kind: api.ModifyStrict, R: plain(20, 5, 7)}, l, api.ErrNone}, {api.Mod{Kind: api.Delete, R: plain(1, 3, 7)}, l[2:], api.OK}, {api.Mod{Kind: api.Delete, R: plain(1, 9, 7)}, l, api.OK},
		{api.Mod{Kind: api.Delete, R: api.Rule{M: all}}, nil, api.OK}, {api.Mod{Kind: api.DeleteStrict, R: plain(10, 4, 0)}, []api.Rule{l[0], l[1], l[3]}, api.OK}, {api.Mod{Kind: api.DeleteStrict, R: plain(20, 4, 0)}, l, api.ErrNone},
		{api.Mod{Kind: api.Modify, R: plain(1, 3, 9)}, l, api.ErrArg}, {api.Mod{Kind: api.Delete, R: plain(-1, 3, 7)}, l, api.ErrArg}, {api.Mod{Kind: api.DeleteStrict, R: plain(65536, 3, 7)}, l, api.ErrArg}, {api.Mod{Kind: api.ModifyStrict, R: plain(20, 9, 9)}, l, api.ErrArg},
	} {
		got, e := table.Apply(l, x.m, 8, 64)
		if e != x.e || !equal(got, x.want) {
			t.Errorf("%d: %v, %d; want %v, %d", i, got, e, x.want, x.e)
		}
	}
}

func TestMods(t *testing.T) { // 11.3
	a, b := plain(20, 3, 2), plain(10, 4, 4)
	got, i, e := table.Mods([]api.Rule{a}, []api.Mod{{Kind: api.Add, R: b}, {Kind: api.DeleteStrict, R: a}, {Kind: api.ModifyStrict, R: plain(10, 4, 6)}}, 8, 64)
	if e != api.OK || i != -1 || !equal(got, []api.Rule{plain(10, 4, 6)}) {
		t.Error(got, i, e)
	}
	got, i, e = table.Mods([]api.Rule{a}, []api.Mod{{Kind: api.Add, R: b}, {Kind: api.DeleteStrict, R: a}, {Kind: api.ModifyStrict, R: a}, {Kind: 9}}, 8, 64)
	if e != api.ErrNone || i != 2 || !equal(got, []api.Rule{a}) {
		t.Error(got, i, e)
	}
	got, i, e = table.Mods([]api.Rule{a}, []api.Mod{{Kind: 9}, {Kind: api.Add, R: b}}, 8, 64)
	if e != api.ErrArg || i != 0 || !equal(got, []api.Rule{a}) {
		t.Error(got, i, e)
	}
	got, i, e = table.Mods([]api.Rule{a}, nil, 8, 64)
	if e != api.OK || i != -1 || !equal(got, []api.Rule{a}) {
		t.Error(got, i, e)
	}
}

func TestAgainstModel(t *testing.T) { // 11.2, 11.3, 11.4
	r := rand.New(rand.NewSource(18))
	kinds := map[api.Errno]int{}
	for range 1500 {
		var l []api.Rule
		for range 12 {
			room := r.Intn(7)
			if len(l) > room {
				room = len(l)
			}
			m := someMod(r, l)
			before, mod := deep(l), m
			want, we := model(l, m, 4, room)
			got, e := table.Apply(l, m, 4, room)
			kinds[e]++
			if e != we || !equal(got, want) || !equal(l, before) || !equal([]api.Rule{m.R}, []api.Rule{mod.R}) {
				t.Fatal(l, m, got, e, want, we)
			}
			if !table.Right(got, 4, room) {
				t.Fatal(l, m, got)
			}
			l = got
		}
		var mods []api.Mod
		for range r.Intn(5) {
			mods = append(mods, someMod(r, l))
		}
		want, wi, we := deep(l), -1, api.OK
		for i, m := range mods {
			next, e := model(want, m, 4, 20)
			if e != api.OK {
				want, wi, we = l, i, e
				break
			}
			want = next
		}
		if got, i, e := table.Mods(l, mods, 4, 20); i != wi || e != we || !equal(got, want) {
			t.Fatal(l, mods, got, i, e)
		}
	}
	for _, e := range []api.Errno{api.OK, api.ErrArg, api.ErrOverlap, api.ErrFull, api.ErrNone} {
		if kinds[e] < 20 {
			t.Error("rarely tried:", e, kinds[e])
		}
	}
}

func TestAddingAndDeletingRestores(t *testing.T) { // 11.4
	r := rand.New(rand.NewSource(19))
	for range 1000 {
		var l []api.Rule
		for range 5 {
			l, _ = table.Apply(l, api.Mod{Kind: api.Add, R: someRule(r)}, 4, 10)
		}
		x := someRule(r)
		old := slices.IndexFunc(l, func(y api.Rule) bool { return rule.Key(x, y) })
		added, _ := table.Apply(l, api.Mod{Kind: api.Add, R: x}, 4, 10)
		back, _ := table.Apply(added, api.Mod{Kind: api.DeleteStrict, R: x}, 4, 10)
		if old < 0 && !equal(back, l) {
			t.Fatal(l, x, back)
		}
		if old >= 0 { // a strict modification affects exactly the packets whose first rule it is
			for range 30 {
				p, port := api.Packet{r.Intn(4), r.Intn(4), 0, 0}, r.Intn(3)
				want := table.Run(l, port, p)
				if table.Find(l, port, p) == old {
					want = act.Run(x.Acts, p)
				}
				if !slices.Equal(table.Run(added, port, p), want) {
					t.Fatal(l, x, p)
				}
			}
		}
	}
}

func TestResultsAreNewMemory(t *testing.T) { // 11.2 with R4
	l := make([]api.Rule, 2, 8)
	l[0], l[1] = plain(20, 3, 2), plain(10, 4, 4)
	before := deep(l)
	beyond := l[:3]
	m := api.Mod{Kind: api.Modify, R: api.Rule{M: all, Acts: out(6)}}
	for _, m := range []api.Mod{m, {Kind: api.Add, R: plain(15, 7, 1)}, {Kind: api.Delete, R: plain(0, 3, 0)}, {Kind: 9}, {Kind: api.DeleteStrict, R: plain(10, 4, 0)}} {
		got, _ := table.Apply(l, m, 8, 64)
		for i := range got {
			got[i].Prio = 99
			for j := range got[i].Acts {
				got[i].Acts[j].V++
			}
		}
		all, _, _ := table.Mods(l, []api.Mod{m}, 8, 64)
		for i := range all {
			all[i].Acts[0].V++
		}
		if !equal(l, before) || !equal(beyond[2:], make([]api.Rule, 1)) {
			t.Fatal(l, beyond)
		}
	}
	if m.R.Acts[0].V != 6 {
		t.Error(m)
	}
}
