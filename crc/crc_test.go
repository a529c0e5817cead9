package crc_test

import (
	"math/rand"
	"strings"
	"testing"

	"turnout/crc"
)

// slow computes the register bit by bit, as the document says it.
func slow(c uint32, s string) uint32 {
	c &= 0xFFFFFF
	for i := 0; i < len(s); i++ {
		c ^= uint32(s[i]) << 16
		for range 8 {
			out := c>>23&1 == 1
			c = c << 1 & 0xFFFFFF
			if out {
				c ^= 0x864CFB
			}
		}
	}
	return c
}

func bytesOf(r *rand.Rand, n int) string {
	b := make([]byte, n)
	r.Read(b)
	return string(b)
}

func TestRegister(t *testing.T) { // 5.1
	for _, x := range []struct {
		s    string
		want uint32
	}{{"123456789", 0x21CF02}, {"", 0xB704CE}} {
		if c := crc.Sum(x.s); c != x.want {
			t.Errorf("Sum(%q) = %x; want %x", x.s, c, x.want)
		}
	}
	for b := range 256 {
		if c, want := crc.More(0, string([]byte{byte(b)})), slow(0, string([]byte{byte(b)})); c != want {
			t.Errorf("byte %x: %x; want %x", b, c, want)
		}
	}
	r := rand.New(rand.NewSource(5))
	for range 2000 {
		c, s := r.Uint32(), bytesOf(r, r.Intn(40))
		if got := crc.More(c, s); got != slow(c, s) || got != crc.More(c&0xFFFFFF, s) || crc.Sum(s) != slow(0xB704CE, s) {
			t.Fatalf("More(%x, %q) = %x; want %x", c, s, got, slow(c, s))
		}
	}
	if c := crc.More(0xFF123456, ""); c != 0x123456 {
		t.Errorf("%x", c)
	}
}

func TestSeal(t *testing.T) { // 5.2, 5.3
	if s := crc.Seal("123456789"); s != "123456789\x21\xcf\x02" {
		t.Errorf("%q", s)
	}
	if s := crc.Seal(""); s != "\xb7\x04\xce" {
		t.Errorf("%q", s)
	}
	r := rand.New(rand.NewSource(6))
	for n := range 100 {
		s := bytesOf(r, n)
		if body, ok := crc.Open(crc.Seal(s)); !ok || body != s {
			t.Fatalf("%q: %q, %v", s, body, ok)
		}
	}
	for _, s := range []string{"", "a", "ab", "abc", "123456789\x21\xcf", "123456789\x21\xcf\x03", "23456789\x21\xcf\x02", "\x00\x00\x00", strings.Repeat("x", 50)} {
		if body, ok := crc.Open(s); ok || body != "" {
			t.Errorf("Open(%q) = %q, %v", s, body, ok)
		}
	}
}

func TestChangesAreSeen(t *testing.T) { // 5.3
	r := rand.New(rand.NewSource(7))
	for range 300 {
		sealed := crc.Seal(bytesOf(r, r.Intn(30)))
		for at := range sealed {
			for n := 1; n <= 3 && at+n <= len(sealed); n++ {
				b := []byte(sealed)
				for i := range n {
					b[at+i] ^= byte(1 + r.Intn(255))
				}
				if body, ok := crc.Open(string(b)); ok || body != "" {
					t.Fatalf("%q is accepted instead of %q", b, sealed)
				}
			}
		}
	}
}
