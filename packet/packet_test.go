package packet_test

import (
	"math"
	"math/rand"
	"testing"

	"turnout/api"
	"turnout/octet"
	"turnout/packet"
)

func TestFields(t *testing.T) { // 7.1
	for _, x := range []struct{ f, bits, top int }{
		{api.Src, 8, 255}, {api.Dst, 8, 255}, {api.Kind, 4, 15}, {api.Tag, 8, 255}, {api.Port, 0, 0}, {api.Switch, 0, 0}, {-1, 0, 0}, {6, 0, 0}, {math.MaxInt, 0, 0}, {math.MinInt, 0, 0},
	} {
		if b, top := packet.Bits(x.f), packet.Top(x.f); b != x.bits || top != x.top {
			t.Errorf("field %d: %d bits, top %d", x.f, b, top)
		}
	}
}

func TestRight(t *testing.T) { // 7.1
	for _, x := range []struct {
		p  api.Packet
		is bool
	}{
		{api.Packet{}, true}, {api.Packet{255, 255, 15, 255}, true}, {api.Packet{1, 2, 3, 4}, true}, {api.Packet{256, 0, 0, 0}, false}, {api.Packet{0, 256, 0, 0}, false}, {api.Packet{0, 0, 16, 0}, false}, {api.Packet{0, 0, 0, 256}, false},
		{api.Packet{-1, 0, 0, 0}, false}, {api.Packet{0, -1, 0, 0}, false}, {api.Packet{0, 0, -1, 0}, false}, {api.Packet{0, 0, 0, -1}, false}, {api.Packet{0, 0, 0, math.MinInt}, false},
	} {
		if packet.Right(x.p) != x.is {
			t.Errorf("Right(%v) = %v", x.p, !x.is)
		}
	}
}

func TestGetAndWith(t *testing.T) { // 7.1, 7.3
	p := api.Packet{10, 20, 5, 40}
	for f := -2; f < 8; f++ {
		want := 0
		if f >= 0 && f < 4 {
			want = p[f]
		}
		if n := packet.Get(p, f); n != want {
			t.Errorf("Get(%d) = %d", f, n)
		}
		for _, v := range []int{-1, 0, 7, 15, 16, 255, 256, math.MaxInt} {
			want := p
			if f >= 0 && f < 4 && v >= 0 && v <= packet.Top(f) {
				want[f] = v
			}
			got := packet.With(p, f, v)
			if got != want {
				t.Errorf("With(%d, %d) = %v; want %v", f, v, got, want)
			}
		}
	}
	if packet.Get(api.Packet{-5, 300, 77, 0}, api.Dst) != 300 || packet.Get(p, math.MaxInt) != 0 || packet.With(p, math.MinInt, 1) != p {
		t.Error("Get or With")
	}
}

func TestCode(t *testing.T) { // 7.2
	for _, x := range []struct {
		p    api.Packet
		want string
	}{{api.Packet{1, 2, 3, 4}, "\x01\x02\x03\x04"}, {api.Packet{255, 0, 15, 7}, "\xff\x00\x0f\x07"}, {api.Packet{1, 2, 16, 4}, ""}, {api.Packet{1, 2, 3, 256}, ""}, {api.Packet{-1, 2, 3, 4}, ""}} {
		if s := packet.Code(x.p); s != x.want {
			t.Errorf("Code(%v) = %q", x.p, s)
		}
	}
}

func TestRead(t *testing.T) { // 7.2
	for _, x := range []struct {
		s string
		p api.Packet
		e api.Errno
	}{
		{"\x01\x02\x03\x04", api.Packet{1, 2, 3, 4}, api.OK}, {"\xff\xff\x0f\xff", api.Packet{255, 255, 15, 255}, api.OK}, {"\x01\x02\x10\x04", api.Packet{}, api.ErrArg}, {"\x01\x02\xff", api.Packet{}, api.ErrArg},
		{"\x01\x02\x03", api.Packet{}, api.ErrSize}, {"", api.Packet{}, api.ErrSize},
	} {
		r := octet.Open(x.s)
		if p := packet.Read(r); p != x.p || r.End() != x.e {
			t.Errorf("Read(%q) = %v, %d", x.s, p, r.End())
		}
	}
	r := octet.Open("\x01\x02\x03\x04\x05")
	if p := packet.Read(r); p != (api.Packet{1, 2, 3, 4}) || r.Left() != 1 || !r.Ok() {
		t.Error(p)
	}
	r = octet.Open("\x01\x02\x03\x04")
	r.Wrong(api.ErrLoop)
	if p := packet.Read(r); p != (api.Packet{}) || r.End() != api.ErrLoop {
		t.Error(p)
	}
	if p := packet.Read(nil); p != (api.Packet{}) {
		t.Error(p)
	}
}

func TestTextAndParse(t *testing.T) { // 7.2
	if s := packet.Text(api.Packet{1, 2, 0, 7}); s != "1>2 0 7" {
		t.Error(s)
	}
	if s := packet.Text(api.Packet{-1, 1000, -20, 0}); s != "-1>1000 -20 0" {
		t.Error(s)
	}
	for _, s := range []string{
		"", "1>2 0", "1>2 0 7 ", " 1>2 0 7", "1 2 0 7", "1>2>0 7", "1>2 0 7 8", "01>2 0 7", "1>2 0 07", "+1>2 0 7", "-1>2 0 7", "-0>2 0 7", "1>2  0 7", "256>2 0 7", "1>256 0 7", "1>2 16 7", "1>2 0 256", "1>2 0 x", "1>2 0 ",
		"99999999999999999999>2 0 7", "1>2 0 7\n", "1>2 0x0 7", "1> 2 0 7", ">2 0 7", "1_0>2 0 7",
	} {
		if p, e := packet.Parse(s); p != (api.Packet{}) || e != api.ErrText {
			t.Errorf("Parse(%q) = %v, %d", s, p, e)
		}
	}
}

func TestReadAsWritten(t *testing.T) { // 7.3
	r := rand.New(rand.NewSource(9))
	for range 3000 {
		p := api.Packet{r.Intn(256), r.Intn(256), r.Intn(16), r.Intn(256)}
		if q, e := packet.Parse(packet.Text(p)); q != p || e != api.OK {
			t.Fatal(p, q, e)
		}
		rd := octet.Open(packet.Code(p))
		if q := packet.Read(rd); q != p || rd.End() != api.OK {
			t.Fatal(p, q)
		}
		f := r.Intn(4)
		v := r.Intn(packet.Top(f) + 1)
		q := packet.With(p, f, v)
		for g := range 4 {
			if g == f && packet.Get(q, g) != v || g != f && packet.Get(q, g) != p[g] {
				t.Fatal(p, q, f, v)
			}
		}
	}
}
