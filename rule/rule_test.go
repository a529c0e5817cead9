package rule_test

import (
	"math"
	"math/rand"
	"slices"
	"testing"

	"turnout/api"
	"turnout/match"
	"turnout/octet"
	"turnout/rule"
)

var any1 = api.Match{Port: -1}

// some is a valid rule for 8 ports.
func some(r *rand.Rand) api.Rule {
	x := api.Rule{Prio: r.Intn(3), M: api.Match{Port: r.Intn(3) - 1}}
	for f := range x.M.Mask {
		x.M.Mask[f] = r.Intn(4)
		x.M.Val[f] = r.Intn(4) & x.M.Mask[f]
	}
	for range r.Intn(4) {
		x.Acts = append(x.Acts, api.Act{Kind: api.Out, V: r.Intn(8)})
	}
	return x
}

func equal(a, b api.Rule) bool {
	return a.Prio == b.Prio && a.M == b.M && slices.Equal(a.Acts, b.Acts)
}

func TestRight(t *testing.T) { // 10.1
	out := []api.Act{{Kind: api.Out, V: 3}}
	for i, x := range []struct {
		x     api.Rule
		ports int
		is    bool
	}{
		{api.Rule{Prio: 0, M: any1}, 0, true}, {api.Rule{Prio: 65535, M: any1, Acts: out}, 8, true}, {api.Rule{Prio: 65536, M: any1, Acts: out}, 8, false}, {api.Rule{Prio: -1, M: any1}, 8, false},
		{api.Rule{Prio: 1, M: api.Match{Port: 8}}, 8, false}, {api.Rule{Prio: 1, M: api.Match{Port: -1, Val: [4]int{1, 0, 0, 0}}}, 8, false}, {api.Rule{Prio: 1, M: any1, Acts: out}, 4, true}, {api.Rule{Prio: 1, M: any1, Acts: out}, 3, false},
		{api.Rule{Prio: 1, M: any1, Acts: make([]api.Act, 17)}, 8, false}, {api.Rule{Prio: 1, M: api.Match{Port: 7}}, 2, true}, {api.Rule{Prio: math.MinInt, M: any1}, 8, false},
	} {
		if rule.Right(x.x, x.ports) != x.is {
			t.Errorf("%d: Right = %v", i, !x.is)
		}
	}
}

func TestComparisons(t *testing.T) { // 10.1, 10.4
	r := rand.New(rand.NewSource(16))
	overlapping := 0
	for range 5000 {
		a, b := some(r), some(r)
		switch r.Intn(3) {
		case 0:
			b.M = a.M
		case 1:
			b = api.Rule{Prio: a.Prio, M: a.M, Acts: slices.Clone(a.Acts)}
		}
		_, meet := match.Meet(a.M, b.M)
		want := [5]bool{equal(a, b), a.Prio == b.Prio && a.M == b.M, a.Prio > b.Prio, b.Prio > a.Prio, a.Prio == b.Prio && a.M != b.M && meet}
		if got := [5]bool{rule.Same(a, b), rule.Key(a, b), rule.Ahead(a, b), rule.Ahead(b, a), rule.Overlaps(a, b)}; got != want {
			t.Fatal(a, b, got, want)
		}
		if rule.Overlaps(a, b) != rule.Overlaps(b, a) {
			t.Fatal(a, b)
		}
		if rule.Overlaps(a, b) {
			overlapping++
			m, _ := match.Meet(a.M, b.M)
			if p, port := api.Packet(m.Val), max(m.Port, 0); !match.Hits(a.M, port, p) || !match.Hits(b.M, port, p) {
				t.Fatal(a, b, p)
			}
		}
	}
	if overlapping < 100 {
		t.Error(overlapping)
	}
	a := api.Rule{Prio: 1, M: any1, Acts: []api.Act{{Kind: api.Back}}}
	b := api.Rule{Prio: 1, M: any1, Acts: []api.Act{{Kind: api.Back}, {Kind: api.Back}}}
	if rule.Same(a, b) || !rule.Key(a, b) || rule.Overlaps(a, b) || !rule.Same(api.Rule{}, api.Rule{Acts: []api.Act{}}) {
		t.Error("comparisons")
	}
}

func TestCodeAndRead(t *testing.T) { // 10.2, 10.4
	if s := rule.Code(rule.Plain(api.Dst, 3, 258, 2)); s != "\x01\x02\x00\x00\x00\x03\xff\x00\x00\x00\x00\x01\x02\x00\x02" {
		t.Errorf("%q", s)
	}
	for _, x := range []struct {
		s     string
		ports int
		e     api.Errno
	}{
		{"", 8, api.ErrSize}, {"\x01", 8, api.ErrSize}, {"\x01\x02\x00\x00\x00\x03\xff\x00\x00\x00", 8, api.ErrSize}, {"\x01\x02\x09\x00\x00\x03\xff\x00\x00\x00\x00\x01\x02\x00\x02", 8, api.ErrArg}, {"\x01\x02\x00\x00\x00\x03\xff\x00\x00\x00\x00\x11", 8, api.ErrFull},
		{"\x01\x02\x09\x00\x00\x03\xff\x00\x00\x00\x00\x11", 8, api.ErrArg}, {"\x01\x02\x00\x00\x00\x03\xff\x00\x00\x00\x00\x01\x02\x00\x02", 2, api.ErrArg}, {"\x01\x02\x00\x00\x00\x03\xff\x00\x00\x00\x00\x01\x02\x00", 8, api.ErrSize},
	} {
		r := octet.Open(x.s)
		if got := rule.Read(r, x.ports); !equal(got, api.Rule{}) || r.End() != x.e {
			t.Errorf("Read(%q) = %v, %d; want %d", x.s, got, r.End(), x.e)
		}
	}
	r := rand.New(rand.NewSource(17))
	for range 2000 {
		x := some(r)
		x.Prio = r.Intn(65536)
		rd := octet.Open(rule.Code(x) + "abc")
		if got := rule.Read(rd, 8); !equal(got, x) || rd.Left() != 3 || !rd.Ok() {
			t.Fatal(x, got)
		}
	}
	rd := octet.Open(rule.Code(some(r)))
	rd.Wrong(api.ErrLoop)
	if got := rule.Read(rd, 8); !equal(got, api.Rule{}) || rd.End() != api.ErrLoop || !equal(rule.Read(nil, 8), api.Rule{}) {
		t.Error(got)
	}
}

func TestText(t *testing.T) { // 10.2
	for _, x := range []struct {
		x    api.Rule
		want string
	}{{rule.Plain(api.Dst, 3, 10, 2), "10 dst 3: out 2"}, {api.Rule{M: any1}, "0 any: drop"}, {api.Rule{Prio: 65535, M: api.Match{Port: 1}, Acts: []api.Act{{Kind: api.Set, F: 3, V: 4}, {Kind: api.Out, V: 1}, {Kind: api.Back}}}, "65535 port 1: set tag 4, out 1, back"}} {
		if s := rule.Text(x.x); s != x.want {
			t.Errorf("%q; want %q", s, x.want)
		}
	}
}

func TestDropAndPlain(t *testing.T) { // 10.3
	if x := rule.Drop(api.Tag, 9, 77); !equal(x, api.Rule{Prio: 77, M: match.Of(api.Tag, 9)}) {
		t.Error(x)
	}
	if x := rule.Plain(api.Src, 255, 0, 7); !equal(x, api.Rule{Prio: 0, M: match.Of(api.Src, 255), Acts: []api.Act{{Kind: api.Out, V: 7}}}) {
		t.Error(x)
	}
	if x := rule.Plain(9, 1, 5, 1); !equal(x, api.Rule{Prio: 5, M: any1, Acts: []api.Act{{Kind: api.Out, V: 1}}}) {
		t.Error(x)
	}
}
