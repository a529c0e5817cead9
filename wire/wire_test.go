package wire_test

import (
	"math"
	"math/rand"
	"slices"
	"testing"

	"turnout/api"
	"turnout/wire"
)

// net has a slow and a fast link.
func net() api.Topo {
	return api.Topo{Switches: 3, Links: []api.Link{{A: 0, PortA: 1, B: 1, PortB: 2, Least: 2, Most: 5}, {A: 1, PortA: 3, B: 2, PortB: 4, Least: 1, Most: 1}}, Hosts: []api.Host{{At: 0, Port: 7}}}
}

func made(t *testing.T) *wire.Wires {
	t.Helper()
	w, e := wire.New(net())
	if e != api.OK || w == nil {
		t.Fatal(e)
	}
	return w
}

func put(t *testing.T, w *wire.Wires, now, sw, port, id int) {
	t.Helper()
	if e := w.Put(now, sw, port, id, api.Packet{id, 1, 2, 3}); e != api.OK {
		t.Fatal(e)
	}
}

func way(id, sw, port, early, late int) wire.Way {
	return wire.Way{Id: id, Sw: sw, Port: port, P: api.Packet{id, 1, 2, 3}, Early: early, Late: late}
}

func TestNewAndPut(t *testing.T) { // 35.1
	bad := net()
	bad.Links[0].Least = 6
	for _, x := range []api.Topo{bad, {}} {
		if w, e := wire.New(x); w != nil || e != api.ErrArg {
			t.Error(w, e)
		}
	}
	w := made(t)
	if w.Len() != 0 || w.Next() != -1 {
		t.Error("new wires are empty")
	}
	put(t, w, 10, 0, 1, 0)
	put(t, w, 20, 1, 2, 1)
	put(t, w, 30, 2, 4, 2)
	for k, want := range []wire.Way{way(0, 1, 2, 12, 15), way(1, 0, 1, 22, 25), way(2, 1, 3, 31, 31)} {
		if got, e := w.Look(k); got != want || e != api.OK {
			t.Error(k, got, e)
		}
	}
	for _, x := range [][2]int{{0, 7}, {0, 2}, {3, 1}, {-1, 1}, {0, -1}, {0, 8}, {math.MaxInt, math.MinInt}} {
		if e := w.Put(0, x[0], x[1], 9, api.Packet{}); e != api.ErrNone {
			t.Error(x, e)
		}
	}
	if w.Len() != 3 {
		t.Error(w.Len())
	}
	for w.Len() < 256 {
		put(t, w, 40, 0, 1, 77)
	}
	if w.Put(40, 0, 1, 77, api.Packet{}) != api.ErrFull || w.Put(40, 0, 7, 77, api.Packet{}) != api.ErrNone || w.Len() != 256 {
		t.Error("full")
	}
}

func TestNextAndLook(t *testing.T) { // 35.2
	w := made(t)
	put(t, w, 10, 0, 1, 0)
	if w.Next() != 15 {
		t.Error(w.Next())
	}
	put(t, w, 12, 1, 3, 1)
	if w.Next() != 13 {
		t.Error(w.Next())
	}
	put(t, w, 20, 1, 3, 1)
	if w.Next() != 13 {
		t.Error(w.Next())
	}
	for _, k := range []int{-1, 3, math.MaxInt, math.MinInt} {
		a, e := w.Look(k)
		b, e2 := w.Take(1000, k)
		if a != (wire.Way{}) || e != api.ErrNone || b != (wire.Way{}) || e2 != api.ErrNone || w.Len() != 3 {
			t.Error(k, a, e, b, e2)
		}
	}
}

func TestTake(t *testing.T) { // 35.2
	w := made(t)
	put(t, w, 10, 0, 1, 0)
	put(t, w, 10, 1, 3, 1)
	put(t, w, 10, 0, 1, 2)
	if got, e := w.Take(11, 0); got != (wire.Way{}) || e != api.ErrLate || w.Len() != 3 {
		t.Error(got, e)
	}
	if got, e := w.Take(11, 1); got != way(1, 2, 4, 11, 11) || e != api.OK || w.Len() != 2 {
		t.Error(got, e)
	}
	if got, e := w.Look(1); got.Id != 2 || e != api.OK {
		t.Error(got, e)
	}
	if got, e := w.Take(12, 0); got != way(0, 1, 2, 12, 15) || e != api.OK || w.Len() != 1 || w.Next() != 15 {
		t.Error(got, e)
	}
	if got, e := w.Take(99, 0); got.Id != 2 || e != api.OK || w.Len() != 0 || w.Next() != -1 {
		t.Error(got, e)
	}
}

func TestDue(t *testing.T) { // 35.2
	w := made(t)
	put(t, w, 10, 0, 1, 0) // 15
	put(t, w, 13, 1, 3, 1) // 14
	put(t, w, 10, 1, 2, 2) // 15
	put(t, w, 16, 1, 3, 3) // 17
	put(t, w, 14, 2, 4, 4) // 15
	if l := w.Due(13); len(l) != 0 || w.Len() != 5 {
		t.Error(l)
	}
	if l := w.Due(15); !slices.Equal(l, []wire.Way{way(1, 2, 4, 14, 14), way(0, 1, 2, 12, 15), way(2, 0, 1, 12, 15), way(4, 1, 3, 15, 15)}) || w.Len() != 1 || w.Next() != 17 {
		t.Error(l)
	}
	if l := w.Due(100); len(l) != 1 || l[0].Id != 3 || w.Len() != 0 || len(w.Due(100)) != 0 {
		t.Error(l)
	}
}

func TestNil(t *testing.T) { // 35.1, 35.2
	var w *wire.Wires
	a, e := w.Look(0)
	b, e2 := w.Take(0, -1)
	if w.Len() != 0 || w.Put(0, 0, 1, 0, api.Packet{}) != api.ErrNil || w.Next() != -1 || a != (wire.Way{}) || e != api.ErrNil || b != (wire.Way{}) || e2 != api.ErrNil || len(w.Due(5)) != 0 {
		t.Error("nil wires")
	}
}

func TestTopologyIsCopied(t *testing.T) { // 35.1 with R4
	x := net()
	w, _ := wire.New(x)
	x.Links[0].Most = 1000
	put(t, w, 10, 0, 1, 0)
	if w.Next() != 15 {
		t.Error(w.Next())
	}
}

func TestPacketsArriveOnceAndInTime(t *testing.T) { // 35.3
	r := rand.New(rand.NewSource(54))
	for range 300 {
		w := made(t)
		sent := map[int][3]int{} // when, and between which delays it arrives
		arrive := func(now int, x wire.Way) {
			s, ok := sent[x.Id]
			if !ok || now < s[0]+s[1] || now > s[0]+s[2] {
				t.Fatal(now, x, s, ok)
			}
			delete(sent, x.Id)
		}
		for now := range 100 {
			for w.Next() == now {
				for _, x := range w.Due(now) {
					arrive(now, x)
				}
			}
			if r.Intn(2) == 0 {
				put(t, w, now, 0, 1, now)
				sent[now] = [3]int{now, 2, 5}
			} else {
				put(t, w, now, 1, 3, now)
				sent[now] = [3]int{now, 1, 1}
			}
			if x, e := w.Take(now, r.Intn(4)); e == api.OK {
				arrive(now, x)
			}
		}
		if len(sent) != w.Len() {
			t.Fatal(sent, w.Len())
		}
	}
}
