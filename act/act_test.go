package act_test

import (
	"math"
	"math/rand"
	"slices"
	"testing"

	"turnout/act"
	"turnout/api"
	"turnout/octet"
)

func set(f, v int) api.Act { return api.Act{Kind: api.Set, F: f, V: v} }

func out(port int) api.Act { return api.Act{Kind: api.Out, V: port} }

var back = api.Act{Kind: api.Back}

// some is a valid list for 8 ports.
func some(r *rand.Rand) []api.Act {
	var l []api.Act
	for range r.Intn(17) {
		switch r.Intn(5) {
		case 0, 1, 2:
			l = append(l, set(r.Intn(4), r.Intn(3)))
		case 3:
			l = append(l, out(r.Intn(8)))
		default:
			l = append(l, back)
		}
	}
	return l
}

func TestRight(t *testing.T) { // 9.1
	full := make([]api.Act, 16)
	for i := range full {
		full[i] = back
	}
	for i, x := range []struct {
		l     []api.Act
		ports int
		is    bool
	}{
		{nil, 0, true}, {[]api.Act{}, -1, true}, {full, 8, true}, {append(slices.Clone(full), back), 8, false}, {[]api.Act{set(0, 255), set(1, 0), set(2, 15), set(3, 255), out(7), back}, 8, true},
		{[]api.Act{set(0, 256)}, 8, false}, {[]api.Act{set(2, 16)}, 8, false}, {[]api.Act{set(3, -1)}, 8, false}, {[]api.Act{set(4, 0)}, 8, false}, {[]api.Act{set(5, 0)}, 8, false}, {[]api.Act{set(-1, 0)}, 8, false},
		{[]api.Act{out(8)}, 8, false}, {[]api.Act{out(3)}, 4, true}, {[]api.Act{out(4)}, 4, false}, {[]api.Act{out(-1)}, 8, false}, {[]api.Act{out(0)}, 0, false}, {[]api.Act{out(0)}, 1, true}, {[]api.Act{{Kind: api.Out, F: 1, V: 0}}, 8, false},
		{[]api.Act{{Kind: api.Back, F: 1}}, 8, false}, {[]api.Act{{Kind: api.Back, V: 1}}, 8, false}, {[]api.Act{{}}, 8, false}, {[]api.Act{{Kind: 4}}, 8, false}, {[]api.Act{{Kind: -1}}, 8, false}, {[]api.Act{back, back, out(9)}, 8, false},
		{[]api.Act{set(math.MaxInt, 0)}, 8, false}, {[]api.Act{set(math.MinInt, 0)}, 8, false},
	} {
		if act.Right(x.l, x.ports) != x.is {
			t.Errorf("%d: Right = %v", i, !x.is)
		}
	}
}

func TestRun(t *testing.T) { // 9.1, 9.4
	p := api.Packet{1, 2, 3, 4}
	for i, x := range []struct {
		l    []api.Act
		want []api.Sent
	}{
		{nil, nil}, {[]api.Act{set(3, 9), back}, nil}, {[]api.Act{out(5)}, []api.Sent{{Port: 5, P: p}}}, {[]api.Act{out(1), out(1)}, []api.Sent{{Port: 1, P: p}, {Port: 1, P: p}}},
		{[]api.Act{set(3, 9), out(1), set(0, 7), out(0)}, []api.Sent{{Port: 1, P: api.Packet{1, 2, 3, 9}}, {Port: 0, P: api.Packet{7, 2, 3, 9}}}},
		{[]api.Act{set(3, 9), set(1, 8), out(1), back, set(2, 0), out(2), back, out(3)}, []api.Sent{{Port: 1, P: api.Packet{1, 8, 3, 9}}, {Port: 2, P: api.Packet{1, 2, 0, 4}}, {Port: 3, P: p}}},
		{[]api.Act{set(3, 9), set(3, 8), out(1)}, []api.Sent{{Port: 1, P: api.Packet{1, 2, 3, 8}}}},
	} {
		if got := act.Run(x.l, p); !slices.Equal(got, x.want) {
			t.Errorf("%d: %v; want %v", i, got, x.want)
		}
	}
}

func TestOutsWritesSame(t *testing.T) { // 9.1
	l := []api.Act{set(3, 9), out(4), back, out(1), set(0, 0), out(4)}
	if got := act.Outs(l); !slices.Equal(got, []int{4, 1, 4}) || len(act.Outs([]api.Act{back, set(1, 1)})) != 0 || len(act.Outs(nil)) != 0 {
		t.Error(got)
	}
	for f, want := range []bool{true, false, false, true, false, false} {
		if act.Writes(l, f) != want {
			t.Error(f)
		}
	}
	if act.Writes(nil, 0) || act.Writes([]api.Act{out(1)}, 0) || act.Writes([]api.Act{back}, 0) || act.Writes(l, -1) || act.Writes(l, math.MaxInt) {
		t.Error("Writes")
	}
	other := slices.Clone(l)
	if !act.Same(l, other) || !act.Same(nil, []api.Act{}) || act.Same(l, l[:5]) || act.Same(l[:5], l) || act.Same(l, nil) {
		t.Error("Same")
	}
	for i := range other {
		for _, change := range []api.Act{{Kind: 1}, {F: 1}, {V: 1}} {
			other := slices.Clone(l)
			other[i].Kind += change.Kind
			other[i].F += change.F
			other[i].V += change.V
			if act.Same(l, other) {
				t.Error("Same", i, change)
			}
		}
	}
}

// folded removes Sets as the document says it, looking ahead from each one.
func folded(l []api.Act) []api.Act {
	var kept []api.Act
	for i, a := range l {
		if a.Kind != api.Set || seen(l[i+1:], a.F) {
			kept = append(kept, a)
		}
	}
	return kept
}

func seen(l []api.Act, f int) bool {
	for _, a := range l {
		switch {
		case a.Kind == api.Out:
			return true
		case a.Kind == api.Back, a.Kind == api.Set && a.F == f:
			return false
		}
	}
	return false
}

func TestFold(t *testing.T) { // 9.2, 9.4
	for i, x := range []struct{ l, want []api.Act }{
		{[]api.Act{set(3, 4), out(1), set(3, 5)}, []api.Act{set(3, 4), out(1)}}, {nil, nil}, {[]api.Act{set(3, 4)}, nil}, {[]api.Act{back, out(1), back}, []api.Act{back, out(1), back}},
		{[]api.Act{set(3, 4), set(3, 5), out(1)}, []api.Act{set(3, 5), out(1)}}, {[]api.Act{set(3, 4), set(2, 5), set(3, 4), out(1)}, []api.Act{set(2, 5), set(3, 4), out(1)}}, {[]api.Act{set(3, 4), back, out(1)}, []api.Act{back, out(1)}},
		{[]api.Act{set(3, 4), out(0), set(3, 5), out(1)}, []api.Act{set(3, 4), out(0), set(3, 5), out(1)}}, {[]api.Act{set(3, 4), set(2, 1), back, set(2, 2), out(1)}, []api.Act{back, set(2, 2), out(1)}},
		{[]api.Act{set(3, 4), out(0), set(1, 1), back, out(2)}, []api.Act{set(3, 4), out(0), back, out(2)}},
	} {
		if got := act.Fold(x.l); !slices.Equal(got, x.want) {
			t.Errorf("%d: %v; want %v", i, got, x.want)
		}
	}
	r := rand.New(rand.NewSource(14))
	for range 5000 {
		l := some(r)
		before := slices.Clone(l)
		f := act.Fold(l)
		if !slices.Equal(f, folded(l)) || !slices.Equal(l, before) {
			t.Fatal(l, f, folded(l))
		}
		if p := (api.Packet{7, 7, 7, 7}); !slices.Equal(act.Run(f, p), act.Run(l, p)) || !slices.Equal(act.Fold(f), f) {
			t.Fatal(l, f)
		}
	}
}

func TestWrongListsDoNotPanic(t *testing.T) { // P1
	for _, f := range []int{-1, 4, 99, math.MaxInt, math.MinInt} {
		l := []api.Act{set(f, 1), set(f, 2), out(-5), {Kind: 77, F: f, V: f}, set(f, 3), back, set(3, 999), out(1)}
		act.Fold(l)
		act.Text(l)
		act.Code(l)
		act.Outs(l)
		if act.Right(l, 8) || !act.Writes(l, f) || len(act.Run(l, api.Packet{1, 2, 3, 4})) != 2 {
			t.Error(f)
		}
	}
}

func TestFoldOfListsThatAreNotValid(t *testing.T) { // 9.2
	r := rand.New(rand.NewSource(67))
	fields := []int{-1, 0, 1, 3, 4, 99, math.MinInt}
	for range 3000 {
		l := some(r)
		for i := range l {
			if l[i].Kind == api.Set {
				l[i].F = fields[r.Intn(len(fields))]
			}
		}
		if f := act.Fold(l); !slices.Equal(f, folded(l)) || !slices.Equal(act.Fold(f), f) {
			t.Fatal(l, f, folded(l))
		}
	}
}

func TestFoldReturnsNewMemory(t *testing.T) { // 9.2 with R4
	l := []api.Act{set(3, 4), out(1)}
	act.Fold(l)[0].V = 99
	if l[0] != set(3, 4) {
		t.Error(l)
	}
}

func TestCodeAndRead(t *testing.T) { // 9.2, 9.4
	if s := act.Code([]api.Act{set(3, 255), out(7), back}); s != "\x03\x01\x03\xff\x02\x00\x07\x03\x00\x00" {
		t.Errorf("%q", s)
	}
	if s := act.Code(nil); s != "\x00" {
		t.Errorf("%q", s)
	}
	for i, x := range []struct {
		s     string
		ports int
		e     api.Errno
	}{
		{"", 8, api.ErrSize}, {"\x01", 8, api.ErrSize}, {"\x01\x01\x03", 8, api.ErrSize}, {"\x11", 8, api.ErrFull}, {"\xff\x09", 8, api.ErrFull}, {"\x01\x04\x00\x00", 8, api.ErrArg}, {"\x01\x00\x00\x00", 8, api.ErrArg}, {"\x01\x01\x04\x00", 8, api.ErrArg},
		{"\x01\x01\x02\x10", 8, api.ErrArg}, {"\x01\x02\x00\x08", 8, api.ErrArg}, {"\x01\x02\x00\x03", 3, api.ErrArg}, {"\x01\x02\x01\x03", 8, api.ErrArg}, {"\x01\x03\x00\x01", 8, api.ErrArg}, {"\x02\x03\x00\x01", 8, api.ErrArg}, {"\x02\x03\x00\x00\x03", 8, api.ErrSize},
		{"\x02\x03\x00\x00", 8, api.ErrSize},
	} {
		r := octet.Open(x.s)
		if l := act.Read(r, x.ports); len(l) != 0 || r.End() != x.e {
			t.Errorf("%d: Read(%q) = %v, %d; want %d", i, x.s, l, r.End(), x.e)
		}
	}
	r := rand.New(rand.NewSource(15))
	for range 2000 {
		l := some(r)
		rd := octet.Open(act.Code(l) + "rest")
		if got := act.Read(rd, 8); !slices.Equal(got, l) || rd.Left() != 4 || !rd.Ok() {
			t.Fatal(l, got)
		}
	}
	rd := octet.Open("\x01\x03\x00\x00")
	rd.Wrong(api.ErrLoop)
	if l := act.Read(rd, 8); len(l) != 0 || rd.End() != api.ErrLoop || len(act.Read(nil, 8)) != 0 {
		t.Error(l)
	}
}

func TestText(t *testing.T) { // 9.3
	for _, x := range []struct {
		l    []api.Act
		want string
	}{
		{nil, "drop"}, {[]api.Act{}, "drop"}, {[]api.Act{set(0, 1), set(1, 2), set(2, 3), set(3, 4), out(7), back}, "set src 1, set dst 2, set kind 3, set tag 4, out 7, back"}, {[]api.Act{back}, "back"}, {[]api.Act{out(0)}, "out 0"}, {[]api.Act{set(3, 255)}, "set tag 255"},
	} {
		if s := act.Text(x.l); s != x.want {
			t.Errorf("%q; want %q", s, x.want)
		}
	}
}
