package frame_test

import (
	"math/rand"
	"slices"
	"strings"
	"testing"

	"turnout/api"
	"turnout/crc"
	"turnout/frame"
)

func TestPack(t *testing.T) { // 6.1
	if s := frame.Pack("ab"); s != crc.Seal("\x01\x00\x02ab") || len(s) != 8 {
		t.Errorf("%q", s)
	}
	if s := frame.Pack(""); s != crc.Seal("\x01\x00\x00") {
		t.Errorf("%q", s)
	}
	most := strings.Repeat("x", 2000)
	if s := frame.Pack(most); s != crc.Seal("\x01\x07\xd0"+most) || len(s) != 2006 {
		t.Error(len(s))
	}
	if s := frame.Pack(most + "x"); s != "" {
		t.Error(len(s))
	}
	if frame.Version != 1 || frame.Most != 2000 {
		t.Error("constants")
	}
}

func TestSize(t *testing.T) { // 6.1
	for _, x := range []struct {
		s string
		n int
		e api.Errno
	}{
		{frame.Pack("ab"), 8, api.OK}, {"\x01\x00\x02", 8, api.OK}, {"\x01\x00\x00junk", 6, api.OK}, {"\x01\x07\xd0", 2006, api.OK}, {"\x01\x07\xd1", 0, api.ErrFull}, {"\x01\xff\xff", 0, api.ErrFull},
		{"", 0, api.ErrForm}, {"\x00", 0, api.ErrForm}, {"\x02\x00\x01", 0, api.ErrForm}, {"\x01", 0, api.ErrSize}, {"\x01\x00", 0, api.ErrSize}, {"\x01\xff", 0, api.ErrSize}, {"\x02\xff\xff", 0, api.ErrForm},
	} {
		if n, e := frame.Size(x.s); n != x.n || e != x.e {
			t.Errorf("Size(%q) = %d, %d; want %d, %d", x.s, n, e, x.n, x.e)
		}
	}
}

func TestNext(t *testing.T) { // 6.2
	f := frame.Pack("body")
	broken := "\x01\x00\x02abxyz"
	for _, x := range []struct {
		s, body, rest string
		e             api.Errno
	}{
		{f, "body", "", api.OK}, {f + "rest", "body", "rest", api.OK}, {f + f, "body", f, api.OK}, {frame.Pack("") + "\x02", "", "\x02", api.OK},
		{"", "", "", api.ErrSize}, {"\x01", "", "\x01", api.ErrSize}, {"\x01\x00", "", "\x01\x00", api.ErrSize}, {f[:len(f)-1], "", f[:len(f)-1], api.ErrSize}, {f[:3], "", f[:3], api.ErrSize},
		{"\x02", "", "", api.ErrForm}, {"\x00" + f, "", "", api.ErrForm}, {"\x01\x07\xd1", "", "", api.ErrFull}, {broken, "", "", api.ErrSum}, {broken + f, "", "", api.ErrSum}, {broken[:7], "", broken[:7], api.ErrSize},
	} {
		if body, rest, e := frame.Next(x.s); body != x.body || rest != x.rest || e != x.e {
			t.Errorf("Next(%q) = %q, %q, %d; want %q, %q, %d", x.s, body, rest, e, x.body, x.rest, x.e)
		}
	}
}

func TestSplit(t *testing.T) { // 6.2
	a, b := frame.Pack("first"), frame.Pack("")
	for _, x := range []struct {
		s      string
		bodies []string
		rest   string
		e      api.Errno
	}{
		{"", nil, "", api.OK}, {a, []string{"first"}, "", api.OK}, {a + b + a, []string{"first", "", "first"}, "", api.OK}, {a + b + a[:4], []string{"first", ""}, a[:4], api.OK}, {a[:7], nil, a[:7], api.OK},
		{a + "\x07", []string{"first"}, "", api.ErrForm}, {a + b + "\x01\xff\xff" + a, []string{"first", ""}, "", api.ErrFull}, {a + a[:len(a)-1] + "?" + a, []string{"first"}, "", api.ErrSum}, {"\x07", nil, "", api.ErrForm},
	} {
		if bodies, rest, e := frame.Split(x.s); !slices.Equal(bodies, x.bodies) || rest != x.rest || e != x.e {
			t.Errorf("Split(%q) = %q, %q, %d; want %q, %q, %d", x.s, bodies, rest, e, x.bodies, x.rest, x.e)
		}
	}
}

func TestStreamsMayBeCutAnywhere(t *testing.T) { // 6.3
	r := rand.New(rand.NewSource(8))
	for range 200 {
		var want []string
		stream := ""
		for range r.Intn(6) {
			body := make([]byte, r.Intn(20))
			r.Read(body)
			want = append(want, string(body))
			stream += frame.Pack(string(body))
		}
		cut := r.Intn(len(stream) + 1)
		first, rest, e := frame.Split(stream[:cut])
		second, end, e2 := frame.Split(rest + stream[cut:])
		if !slices.Equal(append(first, second...), want) || end != "" || e != api.OK || e2 != api.OK {
			t.Fatal(cut, first, second, end, e, e2)
		}
	}
}

func TestChangesAreSeen(t *testing.T) { // 6.3
	f := frame.Pack("some body")
	for i := 3; i < len(f); i++ {
		for x := 1; x < 256; x++ {
			b := []byte(f)
			b[i] ^= byte(x)
			if body, rest, e := frame.Next(string(b)); body != "" || rest != "" || e != api.ErrSum {
				t.Fatal(i, x, body, rest, e)
			}
		}
	}
}
