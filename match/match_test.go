package match_test

import (
	"math"
	"math/rand"
	"testing"

	"turnout/api"
	"turnout/match"
	"turnout/octet"
)

var top = [4]int{255, 255, 15, 255}

var anything = api.Match{Port: -1}

// some is a valid match with few required bits, so that two of them often meet.
func some(r *rand.Rand) api.Match {
	m := api.Match{Port: r.Intn(4) - 1}
	for f := range m.Mask {
		if r.Intn(2) == 0 {
			m.Mask[f] = r.Intn(4) * (1 + r.Intn(2))
			m.Val[f] = r.Intn(256) & m.Mask[f]
		}
	}
	return m
}

func somePacket(r *rand.Rand) api.Packet {
	return api.Packet{r.Intn(256), r.Intn(256), r.Intn(16), r.Intn(256)}
}

func somePackets(r *rand.Rand, n int) []api.Packet {
	var l []api.Packet
	for range n {
		l = append(l, somePacket(r))
	}
	return l
}

func TestRight(t *testing.T) { // 8.1
	with := func(change func(m *api.Match)) api.Match {
		m := api.Match{Port: 2, Val: [4]int{1, 2, 3, 4}, Mask: top}
		change(&m)
		return m
	}
	for i, x := range []struct {
		m  api.Match
		is bool
	}{
		{anything, true}, {api.Match{}, true}, {with(func(m *api.Match) {}), true}, {with(func(m *api.Match) { m.Port = 7 }), true}, {with(func(m *api.Match) { m.Port = 8 }), false}, {with(func(m *api.Match) { m.Port = -2 }), false},
		{with(func(m *api.Match) { m.Mask[0] = 256 }), false}, {with(func(m *api.Match) { m.Mask[2] = 16 }), false}, {with(func(m *api.Match) { m.Mask[2] = 31 }), false}, {with(func(m *api.Match) { m.Mask[3] = -1 }), false}, {with(func(m *api.Match) { m.Mask[1] = math.MinInt }), false},
		{with(func(m *api.Match) { m.Val[0] = -1 }), false}, {with(func(m *api.Match) { m.Val[3] = 256 }), false}, {with(func(m *api.Match) { m.Mask[0] = 2 }), false}, {with(func(m *api.Match) { m.Mask[0] = 1 }), true}, {with(func(m *api.Match) { m.Mask[1] = 0 }), false},
		{with(func(m *api.Match) { m.Mask[3] = 0; m.Val[3] = 0 }), true}, {with(func(m *api.Match) { m.Val[2] = 16 }), false}, {with(func(m *api.Match) { m.Val[1] = math.MinInt }), false},
	} {
		if match.Right(x.m) != x.is {
			t.Errorf("%d: Right(%v) = %v", i, x.m, !x.is)
		}
	}
}

func TestAnyAndOf(t *testing.T) { // 8.1
	if match.Any() != anything {
		t.Error(match.Any())
	}
	for _, x := range []struct {
		f, v int
		want api.Match
	}{
		{api.Dst, 3, api.Match{Port: -1, Val: [4]int{0, 3, 0, 0}, Mask: [4]int{0, 255, 0, 0}}}, {api.Kind, 15, api.Match{Port: -1, Val: [4]int{0, 0, 15, 0}, Mask: [4]int{0, 0, 15, 0}}}, {api.Tag, 255, api.Match{Port: -1, Val: [4]int{0, 0, 0, 255}, Mask: [4]int{0, 0, 0, 255}}},
		{api.Src, 0, api.Match{Port: -1, Mask: [4]int{255, 0, 0, 0}}}, {api.Kind, 16, anything}, {api.Dst, 256, anything}, {api.Dst, -1, anything}, {api.Port, 0, anything}, {api.Switch, 1, anything}, {-1, 0, anything}, {math.MaxInt, 0, anything}, {math.MinInt, 0, anything},
	} {
		if m := match.Of(x.f, x.v); m != x.want {
			t.Errorf("Of(%d, %d) = %v", x.f, x.v, m)
		}
	}
}

func TestHits(t *testing.T) { // 8.1
	two := api.Match{Port: -1, Val: [4]int{0, 2, 0, 0}, Mask: [4]int{0, 2, 0, 0}}
	for dst := range 256 {
		if match.Hits(two, dst%8, api.Packet{9, dst, 8, 7}) != (dst&2 != 0) || match.Hits(match.Of(api.Dst, 3), dst%8, api.Packet{3, dst, 3, 3}) != (dst == 3) {
			t.Error(dst)
		}
	}
	r := rand.New(rand.NewSource(10))
	for range 5000 {
		m, p, port := some(r), somePacket(r), r.Intn(8)
		want := m.Port == -1 || m.Port == port
		for f := range p {
			for bit := range 8 {
				if m.Mask[f]>>bit&1 == 1 && m.Val[f]>>bit&1 != p[f]>>bit&1 {
					want = false
				}
			}
		}
		if match.Hits(m, port, p) != want {
			t.Fatal(m, port, p, want)
		}
	}
	if !match.Hits(anything, 0, api.Packet{}) || match.Hits(api.Match{Port: 3}, 2, api.Packet{}) || !match.Hits(api.Match{Port: 0}, 0, api.Packet{1, 1, 1, 1}) {
		t.Error("ports")
	}
}

func TestMeet(t *testing.T) { // 8.1, 8.3
	r := rand.New(rand.NewSource(11))
	for range 5000 {
		a, b := some(r), some(r)
		m, ok := match.Meet(a, b)
		// Whether they meet, and what is required then, bit by bit.
		want, conflict := anything, a.Port != -1 && b.Port != -1 && a.Port != b.Port
		want.Port = max(a.Port, b.Port)
		for f := range want.Mask {
			conflict = conflict || (a.Val[f]^b.Val[f])&a.Mask[f]&b.Mask[f] != 0
			want.Mask[f], want.Val[f] = a.Mask[f]|b.Mask[f], a.Val[f]|b.Val[f]
		}
		if conflict {
			want = api.Match{}
		}
		if ok == conflict || m != want {
			t.Fatal(a, b, m, ok, want)
		}
		for _, p := range somePackets(r, 20) {
			port := r.Intn(4)
			if both := match.Hits(a, port, p) && match.Hits(b, port, p); both != (ok && match.Hits(m, port, p)) {
				t.Fatal(a, b, p, port)
			}
		}
	}
	if m, ok := match.Meet(match.Of(api.Dst, 3), match.Of(api.Dst, 4)); ok || m != (api.Match{}) {
		t.Error(m, ok)
	}
	if m, ok := match.Meet(api.Match{Port: 1}, api.Match{Port: 2}); ok || m != (api.Match{}) {
		t.Error(m, ok)
	}
	if m, ok := match.Meet(anything, api.Match{Port: 2}); !ok || m.Port != 2 {
		t.Error(m, ok)
	}
}

func TestWithin(t *testing.T) { // 8.1, 8.3
	r := rand.New(rand.NewSource(12))
	seen := 0
	for range 8000 {
		a, b := some(r), some(r)
		if r.Intn(2) == 0 { // b requires a part of what a requires
			b = a
			b.Port = []int{-1, a.Port}[r.Intn(2)]
			for f := range b.Mask {
				b.Mask[f] &= r.Intn(256)
				b.Val[f] &= b.Mask[f]
			}
		}
		want := b.Port == -1 || a.Port == b.Port
		for f := range a.Mask {
			want = want && a.Mask[f]&b.Mask[f] == b.Mask[f] && a.Val[f]&b.Mask[f] == b.Val[f]
		}
		if match.Within(a, b) != want {
			t.Fatal(a, b, want)
		}
		if want {
			seen++
			for _, p := range somePackets(r, 10) {
				if port := r.Intn(4); match.Hits(a, port, p) && !match.Hits(b, port, p) {
					t.Fatal(a, b, p)
				}
			}
		}
	}
	if seen < 1000 || !match.Within(anything, anything) || match.Within(anything, api.Match{Port: 0}) || !match.Within(api.Match{Port: 0}, anything) {
		t.Error(seen)
	}
}

func TestAsked(t *testing.T) { // 8.1
	for _, x := range []struct {
		m api.Match
		n int
	}{{anything, 0}, {api.Match{Port: 0}, 3}, {match.Of(api.Dst, 0), 8}, {match.Of(api.Kind, 1), 4}, {api.Match{Port: 7, Mask: [4]int{1, 6, 15, 129}}, 12}, {api.Match{Port: -1, Mask: top}, 28}} {
		if n := match.Asked(x.m); n != x.n {
			t.Errorf("Asked(%v) = %d; want %d", x.m, n, x.n)
		}
	}
}

func TestCodeAndRead(t *testing.T) { // 8.2
	m := api.Match{Port: 2, Val: [4]int{1, 2, 3, 4}, Mask: [4]int{255, 6, 15, 132}}
	if s := match.Code(m); s != "\x03\x01\xff\x02\x06\x03\x0f\x04\x84" {
		t.Errorf("%q", s)
	}
	if s := match.Code(anything); s != "\x00\x00\x00\x00\x00\x00\x00\x00\x00" {
		t.Errorf("%q", s)
	}
	for _, x := range []struct {
		s string
		e api.Errno
	}{
		{"\x09\x00\x00\x00\x00\x00\x00\x00\x00", api.ErrArg}, {"\x00\x01\x00\x00\x00\x00\x00\x00\x00", api.ErrArg}, {"\x00\x00\x00\x00\x00\x00\x10\x00\x00", api.ErrArg}, {"\x00\x00\x00\x00\x00\x00\x00\x03\x01", api.ErrArg},
		{"\x00\x00\x00\x00\x00\x00\x00\x00", api.ErrSize}, {"", api.ErrSize},
	} {
		r := octet.Open(x.s)
		if m := match.Read(r); m != (api.Match{}) || r.End() != x.e {
			t.Errorf("Read(%q) = %v, %d", x.s, m, r.End())
		}
	}
	r := rand.New(rand.NewSource(13))
	for range 2000 {
		m := some(r)
		rd := octet.Open(match.Code(m) + "x")
		if got := match.Read(rd); got != m || rd.Left() != 1 {
			t.Fatal(m, got)
		}
	}
	rd := octet.Open(match.Code(m))
	rd.Wrong(api.ErrLoop)
	if got := match.Read(rd); got != (api.Match{}) || rd.End() != api.ErrLoop || match.Read(nil) != (api.Match{}) {
		t.Error(got)
	}
}

func TestText(t *testing.T) { // 8.2
	for _, x := range []struct {
		m    api.Match
		want string
	}{
		{anything, "any"}, {match.Of(api.Dst, 3), "dst 3"}, {api.Match{Port: 0}, "port 0"}, {api.Match{Port: 2, Val: [4]int{1, 2, 3, 4}, Mask: [4]int{255, 6, 15, 132}}, "port 2, src 1, dst 2/6, kind 3, tag 4/132"},
		{api.Match{Port: -1, Mask: [4]int{0, 1, 7, 255}}, "dst 0/1, kind 0/7, tag 0"}, {match.Of(api.Src, 0), "src 0"}, {api.Match{Port: 7, Val: [4]int{0, 0, 0, 255}, Mask: [4]int{0, 0, 0, 255}}, "port 7, tag 255"},
	} {
		if s := match.Text(x.m); s != x.want {
			t.Errorf("Text(%v) = %q; want %q", x.m, s, x.want)
		}
	}
}
