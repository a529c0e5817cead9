package proto_test

import (
	"encoding/binary"
	"math/rand"
	"reflect"
	"strings"
	"testing"

	"turnout/api"
	"turnout/match"
	"turnout/proto"
	"turnout/rule"
)

// has lists the fields of each kind.
var has = map[int]string{
	api.TimeAsk: "T1", api.TimeTell: "T1 T2 Life", api.Stage: "U Rd Mods", api.Arm: "U Rd T2", api.Undo: "U Rd", api.Check: "U Code", api.Ack: "U Rd Of Life", api.Nack: "U Rd Of Life Code",
}

func some(r *rand.Rand) api.Message {
	m := api.Message{Kind: 1 + r.Intn(8), Sw: r.Intn(8), U: 1 + r.Intn(65535), Rd: r.Intn(9) - 1, T1: r.Intn(1<<50 + 1), T2: r.Intn(1<<51+1) - 1<<50, Life: r.Intn(65536), Of: 3 + r.Intn(4), Code: r.Intn(256)}
	if m.Kind == api.Stage || m.Kind == api.Arm {
		m.Rd = r.Intn(8)
	}
	for range r.Intn(17) {
		x := rule.Plain(api.Dst, r.Intn(256), r.Intn(65536), r.Intn(8))
		x.Acts = append(x.Acts, api.Act{Kind: api.Set, F: r.Intn(2), V: r.Intn(256)})
		m.Mods = append(m.Mods, api.Mod{Kind: 1 + r.Intn(5), R: x, Check: r.Intn(2) == 0})
	}
	return keep(m)
}

// keep clears the fields that the kind does not have.
func keep(m api.Message) api.Message {
	v := reflect.ValueOf(&m).Elem()
	for _, name := range []string{"T1", "T2", "Life", "U", "Rd", "Of", "Code", "Mods"} {
		if !strings.Contains(" "+has[m.Kind]+" ", " "+name+" ") {
			v.FieldByName(name).SetZero()
		}
	}
	return m
}

// full has something in each field.
func full(kind int) api.Message {
	return api.Message{Kind: kind, Sw: 5, U: 6, Rd: 7, T1: 8, T2: 9, Life: 10, Of: 4, Code: 12, Mods: []api.Mod{{Kind: api.Add, R: rule.Drop(api.Dst, 1, 2)}}}
}

func TestClean(t *testing.T) { // 16.1
	for kind := -1; kind <= 10; kind++ {
		m := full(kind)
		if got := proto.Clean(m); !reflect.DeepEqual(got, keep(m)) {
			t.Errorf("Clean of kind %d: %v", kind, got)
		}
	}
	m := full(api.Stage)
	m.Mods[0].R.Acts = []api.Act{{Kind: api.Back}}
	proto.Clean(m).Mods[0].R.Acts[0].V = 9
	if m.Mods[0].R.Acts[0].V != 0 {
		t.Error("Clean shares memory")
	}
}

func TestSame(t *testing.T) { // 16.1
	m := full(api.Stage)
	if !proto.Same(m, full(api.Stage)) || !proto.Same(api.Message{}, api.Message{Mods: []api.Mod{}}) {
		t.Error("equal messages")
	}
	for i, change := range []func(m *api.Message){
		func(m *api.Message) { m.Kind++ }, func(m *api.Message) { m.Sw++ }, func(m *api.Message) { m.U++ }, func(m *api.Message) { m.Rd++ }, func(m *api.Message) { m.T1++ }, func(m *api.Message) { m.T2++ }, func(m *api.Message) { m.Life++ }, func(m *api.Message) { m.Of++ },
		func(m *api.Message) { m.Code++ }, func(m *api.Message) { m.Mods = nil }, func(m *api.Message) { m.Mods = append(m.Mods, m.Mods[0]) }, func(m *api.Message) { m.Mods[0].Kind++ }, func(m *api.Message) { m.Mods[0].Check = true }, func(m *api.Message) { m.Mods[0].R.Prio++ },
		func(m *api.Message) { m.Mods[0].R.M.Port++ }, func(m *api.Message) { m.Mods[0].R.Acts = []api.Act{{Kind: api.Back}} },
	} {
		other := full(api.Stage)
		change(&other)
		if proto.Same(m, other) || proto.Same(other, m) {
			t.Error(i)
		}
	}
}

func TestRight(t *testing.T) { // 16.1
	r := rand.New(rand.NewSource(26))
	for range 2000 {
		if m := some(r); !proto.Right(m) {
			t.Fatal(m)
		}
	}
	type change struct {
		kinds []int // for which the change matters
		do    func(m *api.Message)
		is    bool
	}
	every := []int{1, 2, 3, 4, 5, 6, 7, 8}
	for i, x := range []change{
		{every, func(m *api.Message) {}, true}, {every, func(m *api.Message) { m.Sw = 0 }, true}, {every, func(m *api.Message) { m.Sw = 7 }, true}, {every, func(m *api.Message) { m.Sw = 8 }, false}, {every, func(m *api.Message) { m.Sw = -1 }, false}, {every, func(m *api.Message) { m.Kind = 0 }, false}, {every, func(m *api.Message) { m.Kind = 9 }, false},
		{[]int{1, 2}, func(m *api.Message) { m.T1 = 1 << 50 }, true}, {[]int{1, 2}, func(m *api.Message) { m.T1 = 0 }, true}, {[]int{1, 2}, func(m *api.Message) { m.T1 = 1<<50 + 1 }, false}, {[]int{1, 2}, func(m *api.Message) { m.T1 = -1 }, false}, {[]int{3, 4, 5, 6, 7, 8}, func(m *api.Message) { m.T1 = 1 }, false},
		{[]int{2, 4}, func(m *api.Message) { m.T2 = 1 << 50 }, true}, {[]int{2, 4}, func(m *api.Message) { m.T2 = -1 << 50 }, true}, {[]int{2, 4}, func(m *api.Message) { m.T2 = 1<<50 + 1 }, false}, {[]int{2, 4}, func(m *api.Message) { m.T2 = -1<<50 - 1 }, false}, {[]int{1, 3, 5, 6, 7, 8}, func(m *api.Message) { m.T2 = 1 }, false},
		{[]int{2, 7, 8}, func(m *api.Message) { m.Life = 0 }, true}, {[]int{2, 7, 8}, func(m *api.Message) { m.Life = 65535 }, true}, {[]int{2, 7, 8}, func(m *api.Message) { m.Life = 65536 }, false}, {[]int{2, 7, 8}, func(m *api.Message) { m.Life = -1 }, false}, {[]int{1, 3, 4, 5, 6}, func(m *api.Message) { m.Life = 1 }, false},
		{every[2:], func(m *api.Message) { m.U = 1 }, true}, {every[2:], func(m *api.Message) { m.U = 65535 }, true}, {every[2:], func(m *api.Message) { m.U = 65536 }, false}, {every[2:], func(m *api.Message) { m.U = 0 }, false}, {every[2:], func(m *api.Message) { m.U = -1 }, false}, {every[:2], func(m *api.Message) { m.U = 1 }, false},
		{[]int{3, 4, 5, 7, 8}, func(m *api.Message) { m.Rd = 0 }, true}, {[]int{3, 4, 5, 7, 8}, func(m *api.Message) { m.Rd = 7 }, true}, {[]int{3, 4, 5, 7, 8}, func(m *api.Message) { m.Rd = 8 }, false}, {[]int{5, 7, 8}, func(m *api.Message) { m.Rd = -1 }, true}, {[]int{3, 4}, func(m *api.Message) { m.Rd = -1 }, false},
		{[]int{5, 7, 8}, func(m *api.Message) { m.Rd = -2 }, false}, {[]int{1, 2, 6}, func(m *api.Message) { m.Rd = 1 }, false}, {[]int{1, 2, 6}, func(m *api.Message) { m.Rd = -1 }, false},
		{[]int{7, 8}, func(m *api.Message) { m.Of = 3 }, true}, {[]int{7, 8}, func(m *api.Message) { m.Of = 6 }, true}, {[]int{7, 8}, func(m *api.Message) { m.Of = 2 }, false}, {[]int{7, 8}, func(m *api.Message) { m.Of = 7 }, false}, {[]int{1, 2, 3, 4, 5, 6}, func(m *api.Message) { m.Of = 3 }, false},
		{[]int{6, 8}, func(m *api.Message) { m.Code = 0 }, true}, {[]int{6, 8}, func(m *api.Message) { m.Code = 255 }, true}, {[]int{6, 8}, func(m *api.Message) { m.Code = 256 }, false}, {[]int{6, 8}, func(m *api.Message) { m.Code = -1 }, false}, {[]int{1, 2, 3, 4, 5, 7}, func(m *api.Message) { m.Code = 1 }, false},
		{[]int{3}, func(m *api.Message) { m.Mods = nil }, true}, {[]int{3}, func(m *api.Message) { m.Mods = many(16) }, true}, {[]int{3}, func(m *api.Message) { m.Mods = many(17) }, false}, {[]int{1, 2, 4, 5, 6, 7, 8}, func(m *api.Message) { m.Mods = many(1) }, false},
		{[]int{3}, func(m *api.Message) { m.Mods = many(2); m.Mods[1].Kind = 0 }, false}, {[]int{3}, func(m *api.Message) { m.Mods = many(2); m.Mods[1].Kind = 6 }, false}, {[]int{3}, func(m *api.Message) { m.Mods = many(2); m.Mods[1].Kind = 5 }, true}, {[]int{3}, func(m *api.Message) { m.Mods = many(2); m.Mods[1].R.Prio = -1 }, false},
		{[]int{3}, func(m *api.Message) { m.Mods = many(1); m.Mods[0].R = rule.Plain(1, 1, 1, 7) }, true}, {[]int{3}, func(m *api.Message) { m.Mods = many(1); m.Mods[0].R = rule.Plain(1, 1, 1, 8) }, false},
	} {
		for _, kind := range x.kinds {
			m := keep(full(kind))
			x.do(&m)
			if proto.Right(m) != x.is {
				t.Errorf("%d: Right(%v) = %v", i, m, !x.is)
			}
			if !x.is && proto.Code(m) != "" {
				t.Errorf("%d: Code of a message that is not valid", i)
			}
		}
	}
}

func many(n int) []api.Mod {
	var l []api.Mod
	for i := range n {
		l = append(l, api.Mod{Kind: api.Add, R: rule.Drop(api.Dst, i, 5)})
	}
	return l
}

func TestCode(t *testing.T) { // 16.2
	i64 := func(n int) string { return string(binary.BigEndian.AppendUint64(nil, uint64(n))) }
	x := rule.Plain(api.Dst, 3, 258, 2)
	for _, x := range []struct {
		m    api.Message
		want string
	}{
		{api.Message{Kind: api.TimeAsk, Sw: 3, T1: 77}, "\x01\x03" + i64(77)}, {api.Message{Kind: api.TimeTell, Sw: 7, T1: 77, T2: -5, Life: 258}, "\x02\x07" + i64(77) + i64(-5) + "\x01\x02"},
		{api.Message{Kind: api.Stage, U: 0x102, Rd: 3, Mods: []api.Mod{{Kind: api.ModifyStrict, R: x, Check: true}, {Kind: api.Delete, R: x}}}, "\x03\x00\x01\x02\x04\x02\x03\x01" + rule.Code(x) + "\x04\x00" + rule.Code(x)}, {api.Message{Kind: api.Stage, U: 1}, "\x03\x00\x00\x01\x01\x00"},
		{api.Message{Kind: api.Arm, Sw: 1, U: 5, Rd: 7, T2: 900}, "\x04\x01" + i64(900) + "\x00\x05\x08"}, {api.Message{Kind: api.Undo, Sw: 1, U: 5, Rd: -1}, "\x05\x01\x00\x05\x00"}, {api.Message{Kind: api.Check, Sw: 1, U: 5, Code: 255}, "\x06\x01\x00\x05\xff"},
		{api.Message{Kind: api.Ack, Sw: 1, U: 5, Rd: -1, Of: 5, Life: 3}, "\x07\x01\x00\x03\x00\x05\x00\x05"}, {api.Message{Kind: api.Nack, Sw: 1, U: 5, Rd: 2, Of: 4, Life: 3, Code: 15}, "\x08\x01\x00\x03\x00\x05\x03\x04\x0f"},
	} {
		if s := proto.Code(x.m); s != x.want {
			t.Errorf("Code(%v) = %q; want %q", x.m, s, x.want)
		}
	}
	if len(proto.Code(api.Message{Kind: api.TimeAsk, T1: 1})) != 10 {
		t.Error("TimeAsk")
	}
}

func TestParseErrors(t *testing.T) { // 16.2
	good := rule.Code(rule.Plain(api.Dst, 3, 258, 2))
	bad := rule.Code(api.Rule{M: match.Any(), Acts: []api.Act{{Kind: api.Out, V: 8}}})
	eight := strings.Repeat("\x00", 7) + "\x05"
	for _, x := range []struct {
		s string
		e api.Errno
	}{
		{"", api.ErrSize}, {"\x01", api.ErrSize}, {"\x09", api.ErrSize}, {"\x00\x00", api.ErrKind}, {"\x09\x00", api.ErrKind}, {"\x09\xff" + eight, api.ErrKind}, {"\x01\x00", api.ErrSize}, {"\x01\x00" + eight[1:], api.ErrSize}, {"\x01\x00" + eight + "x", api.ErrForm}, {"\x01\x08" + eight, api.ErrArg},
		{"\x01\x08" + eight + "x", api.ErrForm}, {"\x01\x08" + eight[1:], api.ErrSize}, {"\x01\x00\xff" + eight[1:], api.ErrArg}, {"\x05\x00\x00\x00\x00", api.ErrArg}, {"\x05\x00\x00\x01\x09", api.ErrArg}, {"\x04\x00" + eight + "\x00\x01\x00", api.ErrArg}, {"\x07\x00\x00\x00\x00\x01\x00\x02", api.ErrArg},
		{"\x07\x00\x00\x00\x00\x01\x00\x07", api.ErrArg}, {"\x03\x00\x00\x01\x01", api.ErrSize}, {"\x03\x00\x00\x01\x01\x01\x01\x02" + good, api.ErrForm}, {"\x03\x00\x00\x01\x01\x01\x01\x00" + bad, api.ErrArg}, {"\x03\x00\x00\x01\x01\x02\x01\x00" + bad, api.ErrArg}, {"\x03\x00\x00\x01\x01\x02\x01\x00" + good, api.ErrSize},
		{"\x03\x00\x00\x01\x01\x01\x06\x00" + good, api.ErrArg}, {"\x03\x00\x00\x01\x01\x01\x00\x00" + good, api.ErrArg}, {"\x03\x00\x00\x01\x01\x01\x06\x00" + good + "x", api.ErrForm}, {"\x03\x00\x00\x01\x00\x01\x01\x00" + good, api.ErrArg}, {"\x03\x00\x00\x01\x01\x01\x01\x00" + good[:11] + "\x11", api.ErrFull},
		{"\x06\x00\x00\x01", api.ErrSize},
	} {
		if m, e := proto.Parse(x.s); e != x.e || !proto.Same(m, api.Message{}) {
			t.Errorf("Parse(%q) = %v, %d; want %d", x.s, m, e, x.e)
		}
	}
}

func TestParsedAsEncoded(t *testing.T) { // 16.3
	r := rand.New(rand.NewSource(27))
	for range 3000 {
		m := some(r)
		s := proto.Code(m)
		got, e := proto.Parse(s)
		if e != api.OK || !proto.Same(got, m) {
			t.Fatal(m, got, e)
		}
		// A changed text is either no message, or that of the message that is parsed.
		b := []byte(s)
		b[r.Intn(len(b))] ^= byte(1 << r.Intn(8))
		if got, e := proto.Parse(string(b)); e == api.OK && (proto.Code(got) != string(b) || !proto.Right(got)) {
			t.Fatalf("%q: %v", b, got)
		}
	}
	if m, e := proto.Parse(string([]byte{1, 0, 0, 0, 0, 0, 0, 0, 0, 9})); e != api.OK || m.T1 != 9 || m.Sw != 0 {
		t.Error(m, e)
	}
}
