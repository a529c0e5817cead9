package bundle_test

import (
	"math"
	"math/rand"
	"slices"
	"testing"

	"turnout/api"
	"turnout/bundle"
	"turnout/rule"
	"turnout/table"
)

func mod(dst int) api.Mod { return api.Mod{Kind: api.Add, R: rule.Plain(api.Dst, dst, 10, 1)} }

func equal(a, b []api.Mod) bool {
	return slices.EqualFunc(a, b, func(x, y api.Mod) bool { return x.Kind == y.Kind && x.Check == y.Check && rule.Same(x.R, y.R) })
}

// filled is an open bundle with the modifications of these numbers.
func filled(t *testing.T, numbers ...int) *bundle.Bundle {
	t.Helper()
	b := bundle.New()
	for _, i := range numbers {
		if e := b.Add(i, mod(i)); e != api.OK {
			t.Fatal(i, e)
		}
	}
	return b
}

func closed(t *testing.T, n int) *bundle.Bundle {
	t.Helper()
	var numbers []int
	for i := range n {
		numbers = append(numbers, i)
	}
	b := filled(t, numbers...)
	if e := b.Close(n); e != api.OK || b.State() != bundle.Closed {
		t.Fatal(n, e)
	}
	return b
}

func TestAdd(t *testing.T) { // 12.1
	b := bundle.New()
	if b.State() != bundle.Open || bundle.Open != 0 || bundle.Closed != 1 || bundle.Gone != 2 {
		t.Error(b.State())
	}
	checked, other := mod(3), mod(3)
	checked.Check = true
	other.R.Acts[0].V = 2
	kind := mod(3)
	kind.Kind = api.Modify
	for i, x := range []struct {
		i int
		m api.Mod
		e api.Errno
	}{
		{3, mod(3), api.OK}, {3, mod(3), api.OK}, {3, mod(4), api.ErrTwice}, {3, checked, api.ErrTwice}, {3, other, api.ErrTwice}, {3, kind, api.ErrTwice}, {4, mod(3), api.OK}, {15, mod(15), api.OK}, {0, api.Mod{Kind: 77}, api.OK},
		{16, mod(0), api.ErrArg}, {-1, mod(0), api.ErrArg}, {math.MaxInt, mod(0), api.ErrArg}, {math.MinInt, mod(0), api.ErrArg}, {3, mod(3), api.OK}, {0, api.Mod{}, api.ErrTwice},
	} {
		if e := b.Add(x.i, x.m); e != x.e {
			t.Errorf("%d: Add(%d) = %d; want %d", i, x.i, e, x.e)
		}
	}
	b = closed(t, 2)
	if b.Add(0, mod(0)) != api.ErrState || b.Add(99, mod(0)) != api.ErrState {
		t.Error("closed")
	}
	b.Discard()
	if b.Add(0, mod(0)) != api.ErrState || b.Add(-1, mod(0)) != api.ErrState {
		t.Error("gone")
	}
}

func TestClose(t *testing.T) { // 12.1
	for i, x := range []struct {
		numbers []int
		n       int
		e       api.Errno
	}{
		{nil, 0, api.OK}, {[]int{0, 1}, 2, api.OK}, {[]int{1, 0}, 2, api.OK}, {[]int{0, 1}, 1, api.ErrTwice}, {[]int{0, 1}, 3, api.ErrNone}, {[]int{0, 2}, 2, api.ErrTwice}, {[]int{0, 2}, 3, api.ErrNone}, {[]int{15}, 16, api.ErrNone},
		{[]int{1, 2}, 2, api.ErrTwice}, {[]int{0, 1}, -1, api.ErrArg}, {[]int{0, 1}, 17, api.ErrArg}, {nil, math.MinInt, api.ErrArg}, {nil, math.MaxInt, api.ErrArg}, {[]int{0}, 0, api.ErrTwice}, {nil, 16, api.ErrNone},
	} {
		b := filled(t, x.numbers...)
		if e := b.Close(x.n); e != x.e || b.State() != map[bool]int{true: bundle.Closed, false: bundle.Open}[x.e == api.OK] {
			t.Errorf("%d: Close(%d) = %d, state %d; want %d", i, x.n, e, b.State(), x.e)
		}
	}
	b := closed(t, 16)
	if b.Close(16) != api.OK || b.Close(15) != api.ErrArg || b.Close(17) != api.ErrArg || b.Close(-1) != api.ErrArg || b.State() != bundle.Closed {
		t.Error("closed")
	}
	b.Discard()
	if b.State() != bundle.Gone || b.Close(16) != api.ErrState || b.Close(0) != api.ErrState || b.Close(-1) != api.ErrState || len(b.Mods()) != 0 {
		t.Error("gone")
	}
	b = filled(t, 0)
	b.Discard()
	if b.State() != bundle.Gone || b.Close(0) != api.ErrState || b.Close(1) != api.ErrState {
		t.Error("discarded while open")
	}
}

func TestModsAndCheck(t *testing.T) { // 12.2
	b := filled(t, 1, 0, 1)
	if len(b.Mods()) != 0 || b.Check(nil, 8, 64) != api.ErrState {
		t.Error("open")
	}
	if l, e := b.Commit([]api.Rule{mod(9).R}, 8, 64); e != api.ErrState || !table.Same(l, []api.Rule{mod(9).R}) || b.State() != bundle.Open {
		t.Error(l, e)
	}
	if e := b.Close(2); e != api.OK || !equal(b.Mods(), []api.Mod{mod(0), mod(1)}) {
		t.Error(e, b.Mods())
	}
	if b.Check(nil, 8, 64) != api.OK || b.Check(nil, 8, 2) != api.OK || b.Check(nil, 8, 1) != api.ErrFull || b.Check(nil, 1, 64) != api.ErrArg || b.State() != bundle.Closed {
		t.Error("Check")
	}
}

func TestCommit(t *testing.T) { // 12.2, 12.3
	old := []api.Rule{mod(9).R}
	b := closed(t, 3)
	if l, e := b.Commit(old, 8, 3); e != api.ErrFull || !table.Same(l, old) || b.State() != bundle.Closed || len(b.Mods()) != 3 {
		t.Error(l, e)
	}
	want, _, _ := table.Mods(old, []api.Mod{mod(0), mod(1), mod(2)}, 8, 4)
	if l, e := b.Commit(old, 8, 4); e != api.OK || !table.Same(l, want) || b.State() != bundle.Gone || len(b.Mods()) != 0 {
		t.Error(l, e)
	}
	if l, e := b.Commit(old, 8, 4); e != api.ErrState || !table.Same(l, old) || b.Check(old, 8, 4) != api.ErrState {
		t.Error("committed twice", l, e)
	}
	b = closed(t, 0)
	if l, e := b.Commit(old, 8, 4); e != api.OK || !table.Same(l, old) || b.State() != bundle.Gone {
		t.Error(l, e)
	}
}

func TestOrderAndDuplicatesDoNotMatter(t *testing.T) { // 12.3
	r := rand.New(rand.NewSource(20))
	want := closed(t, 6).Mods()
	for range 200 {
		b := bundle.New()
		for range 3 {
			for _, i := range r.Perm(6) {
				if e := b.Add(i, mod(i)); e != api.OK {
					t.Fatal(e)
				}
			}
		}
		if e := b.Close(6); e != api.OK || !equal(b.Mods(), want) {
			t.Fatal(e, b.Mods())
		}
	}
}

func TestNil(t *testing.T) { // 12.1, 12.2
	var b *bundle.Bundle
	b.Discard()
	if b.State() != bundle.Gone || b.Add(0, mod(0)) != api.ErrState || b.Add(-1, mod(0)) != api.ErrState || b.Close(0) != api.ErrState || len(b.Mods()) != 0 || b.Check(nil, 8, 64) != api.ErrState {
		t.Error("nil bundle")
	}
	if l, e := b.Commit(nil, 8, 64); len(l) != 0 || e != api.ErrState {
		t.Error(l, e)
	}
}

func TestMemory(t *testing.T) { // 12.2 with R4
	b := bundle.New()
	m := mod(0)
	b.Add(0, m)
	m.R.Acts[0].V = 7
	b.Close(1)
	b.Mods()[0].R.Acts[0].V = 6
	l, _ := b.Commit(nil, 8, 64)
	if !table.Same(l, []api.Rule{mod(0).R}) {
		t.Error(l)
	}
}
