package octet_test

import (
	"encoding/binary"
	"math"
	"math/rand"
	"strings"
	"testing"

	"turnout/api"
	"turnout/octet"
)

func TestNum(t *testing.T) { // 4.1
	for _, x := range []struct {
		n, width int
		want     string
	}{
		{0, 1, "\x00"}, {255, 1, "\xff"}, {256, 1, ""}, {256, 2, "\x01\x00"}, {65535, 2, "\xff\xff"}, {65536, 2, ""}, {1, 7, "\x00\x00\x00\x00\x00\x00\x01"}, {1<<56 - 1, 7, "\xff\xff\xff\xff\xff\xff\xff"}, {1 << 56, 7, ""},
		{0x010203, 3, "\x01\x02\x03"}, {-1, 1, ""}, {-1, 7, ""}, {0, 0, ""}, {0, 8, ""}, {0, -1, ""}, {1, math.MaxInt, ""}, {math.MinInt, math.MinInt, ""}, {math.MaxInt, 7, ""}, {math.MinInt, 7, ""},
	} {
		if s := octet.Num(x.n, x.width); s != x.want {
			t.Errorf("Num(%d, %d) = %x; want %x", x.n, x.width, s, x.want)
		}
	}
}

func TestIntAndFlag(t *testing.T) { // 4.1
	for _, n := range []int{0, 1, -1, -2, 255, 1 << 40, math.MaxInt, math.MinInt} {
		if s := octet.Int(n); s != string(binary.BigEndian.AppendUint64(nil, uint64(n))) {
			t.Errorf("Int(%d) = %x", n, s)
		}
	}
	if octet.Int(-2) != strings.Repeat("\xff", 7)+"\xfe" || octet.Flag(true) != "\x01" || octet.Flag(false) != "\x00" {
		t.Error("Int or Flag")
	}
}

func TestReading(t *testing.T) { // 4.2
	r := octet.Open("\x05\x01\x02\x01\x00abc\xff\xff\xff\xff\xff\xff\xff\xfe\x03rest")
	if n := r.Num(1); n != 5 || r.Left() != 20 {
		t.Error(n, r.Left())
	}
	if n := r.Num(2); n != 0x102 {
		t.Error(n)
	}
	if !r.Flag() || r.Flag() || !r.Ok() {
		t.Error("Flag")
	}
	if s := r.Take(3); s != "abc" {
		t.Error(s)
	}
	if s := r.Take(0); s != "" || !r.Ok() {
		t.Error(s)
	}
	if n := r.Int(); n != -2 {
		t.Error(n)
	}
	if n := r.Count(3); n != 3 || r.Left() != 4 || !r.Ok() {
		t.Error(n, r.Left())
	}
	if e := r.End(); e != api.ErrForm || r.Ok() || r.Left() != 0 || r.Take(1) != "" || r.End() != api.ErrForm {
		t.Error(e)
	}
	r = octet.Open("x")
	if r.Take(1) != "x" || r.End() != api.OK || !r.Ok() || r.End() != api.OK {
		t.Error("End")
	}
	r = octet.Open("xy")
	if r.Take(1) != "x" || r.End() != api.ErrForm {
		t.Error("one byte is left")
	}
	if octet.Open("").End() != api.OK {
		t.Error("End of nothing")
	}
}

func TestErrors(t *testing.T) { // 4.2
	for i, x := range []struct {
		s    string
		read func(r *octet.Reader) bool // reports whether the result is zero
		e    api.Errno
	}{
		{"abcdefgh", func(r *octet.Reader) bool { return r.Num(0) == 0 }, api.ErrArg}, {"abcdefgh", func(r *octet.Reader) bool { return r.Num(8) == 0 }, api.ErrArg}, {"", func(r *octet.Reader) bool { return r.Num(-1) == 0 }, api.ErrArg},
		{"a", func(r *octet.Reader) bool { return r.Num(2) == 0 }, api.ErrSize}, {"", func(r *octet.Reader) bool { return r.Num(1) == 0 }, api.ErrSize}, {"abcdef", func(r *octet.Reader) bool { return r.Num(7) == 0 }, api.ErrSize},
		{"abcdefg", func(r *octet.Reader) bool { return r.Int() == 0 }, api.ErrSize}, {"", func(r *octet.Reader) bool { return !r.Flag() }, api.ErrSize}, {"\x02", func(r *octet.Reader) bool { return !r.Flag() }, api.ErrForm}, {"\xff\x01", func(r *octet.Reader) bool { return !r.Flag() }, api.ErrForm},
		{"abc", func(r *octet.Reader) bool { return r.Take(-1) == "" }, api.ErrArg}, {"abc", func(r *octet.Reader) bool { return r.Take(math.MinInt) == "" }, api.ErrArg}, {"abc", func(r *octet.Reader) bool { return r.Take(4) == "" }, api.ErrSize}, {"abc", func(r *octet.Reader) bool { return r.Take(math.MaxInt) == "" }, api.ErrSize},
		{"\x04", func(r *octet.Reader) bool { return r.Count(3) == 0 }, api.ErrFull}, {"", func(r *octet.Reader) bool { return r.Count(3) == 0 }, api.ErrSize}, {"\x00", func(r *octet.Reader) bool { return r.Count(-1) == 0 }, api.ErrFull},
		{"abc", func(r *octet.Reader) bool { r.Wrong(api.ErrLoop); return true }, api.ErrLoop}, {"abc", func(r *octet.Reader) bool { r.Wrong(api.ErrLoop); r.Wrong(api.ErrPort); return true }, api.ErrLoop},
	} {
		r := octet.Open(x.s)
		if !x.read(r) {
			t.Error(i, "the result is not zero")
		}
		// After the first error nothing more is read, and the error stays.
		if r.Ok() || r.Left() != 0 || r.Num(1) != 0 || r.Num(9) != 0 || r.Int() != 0 || r.Flag() || r.Take(1) != "" || r.Take(-1) != "" || r.Take(0) != "" || r.Count(255) != 0 {
			t.Error(i, "read on after an error")
		}
		r.Wrong(api.ErrTwice)
		if e := r.End(); e != x.e {
			t.Errorf("%d: error %d; want %d", i, e, x.e)
		}
	}
	r := octet.Open("\x01\x01")
	r.Wrong(api.OK)
	if !r.Ok() || !r.Flag() || r.Left() != 1 {
		t.Error("OK is no error")
	}
}

func TestNil(t *testing.T) { // 4.2
	var r *octet.Reader
	r.Wrong(api.ErrArg)
	if r.Num(1) != 0 || r.Int() != 0 || r.Flag() || r.Take(0) != "" || r.Take(-1) != "" || r.Count(9) != 0 || r.Ok() || r.Left() != 0 || r.End() != api.ErrNil {
		t.Error("nil reader")
	}
}

func TestReadAsWritten(t *testing.T) { // 4.3
	rnd := rand.New(rand.NewSource(4))
	for range 3000 {
		rest := strings.Repeat("\xfe", rnd.Intn(3))
		width := 1 + rnd.Intn(7)
		n, i, is := rnd.Intn(1<<(8*width)), int(rnd.Uint64()), rnd.Intn(2) == 0
		s := octet.Num(n, width) + octet.Int(i) + octet.Flag(is)
		r := octet.Open(s + rest)
		if a, b, c := r.Num(width), r.Int(), r.Flag(); a != n || b != i || c != is || r.Left() != len(rest) || !r.Ok() {
			t.Fatal(width, n, a, i, b, is, c)
		}
		bytes := string(binary.BigEndian.AppendUint64(nil, rnd.Uint64()))
		r = octet.Open(bytes[:width] + rest)
		if m := r.Num(width); octet.Num(m, width) != bytes[:width] {
			t.Fatalf("%x: %d", bytes[:width], m)
		}
		if m := octet.Open(bytes + rest).Int(); octet.Int(m) != bytes {
			t.Fatalf("%x: %d", bytes, m)
		}
	}
}
