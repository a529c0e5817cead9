package channel_test

import (
	"math"
	"math/rand"
	"slices"
	"strconv"
	"testing"

	"turnout/api"
	"turnout/channel"
)

func flight(sw int, up bool, s string) channel.Flight {
	return channel.Flight{Sw: sw, Up: up, S: s}
}

func filled(t *testing.T, l ...channel.Flight) *channel.Channel {
	t.Helper()
	c := channel.New()
	for _, f := range l {
		if e := c.Send(f); e != api.OK {
			t.Fatal(e)
		}
	}
	return c
}

func holds(t *testing.T, c *channel.Channel, want ...channel.Flight) {
	t.Helper()
	if c.Len() != len(want) {
		t.Fatal(c.Len(), want)
	}
	for k, f := range want {
		if got, e := c.Look(k); got != f || e != api.OK {
			t.Fatal(k, got, e, want)
		}
	}
}

var a, b, c3 = flight(0, true, "a"), flight(1, false, "b"), flight(0, false, "")

func TestSendLookTake(t *testing.T) { // 34.1
	c := channel.New()
	if c.Len() != 0 || c.Lost() != 0 {
		t.Error("a new channel is empty")
	}
	c = filled(t, a, b, c3)
	holds(t, c, a, b, c3)
	if f, e := c.Take(1); f != b || e != api.OK {
		t.Error(f, e)
	}
	holds(t, c, a, c3)
	for _, k := range []int{-1, 2, math.MaxInt, math.MinInt} {
		f, e := c.Look(k)
		g, e2 := c.Take(k)
		if f != (channel.Flight{}) || e != api.ErrNone || g != (channel.Flight{}) || e2 != api.ErrNone || c.Twice(k) != api.ErrNone {
			t.Error(k, f, e, g, e2)
		}
	}
	holds(t, c, a, c3)
	if c.Lost() != 0 || c.Twice(0) != api.OK {
		t.Error("Twice")
	}
	holds(t, c, a, c3, a)
}

func TestFull(t *testing.T) { // 34.1
	c := channel.New()
	for i := range 256 {
		if e := c.Send(flight(i%8, i%2 == 0, strconv.Itoa(i))); e != api.OK {
			t.Fatal(i, e)
		}
	}
	if c.Send(a) != api.ErrFull || c.Twice(3) != api.ErrFull || c.Lost() != 2 || c.Len() != 256 || c.Twice(256) != api.ErrNone || c.Lost() != 2 {
		t.Error(c.Lost(), c.Len())
	}
	if f, e := c.Take(255); f.S != "255" || e != api.OK {
		t.Error(f, e)
	}
	if c.Twice(0) != api.OK || c.Len() != 256 || c.Lost() != 2 {
		t.Error(c.Len(), c.Lost())
	}
	if f, e := c.Look(255); f.S != "0" || e != api.OK {
		t.Error(f, e)
	}
}

func TestOfAndNext(t *testing.T) { // 34.2
	c := filled(t, a, b, c3, a, flight(-1, true, ""))
	for sw, want := range map[int]int{0: 3, 1: 1, 2: 0, -1: 1, 7: 0} {
		if n := c.Of(sw); n != want {
			t.Errorf("Of(%d) = %d", sw, n)
		}
	}
	for _, x := range []struct {
		sw   int
		up   bool
		want int
	}{{0, true, 0}, {0, false, 2}, {1, false, 1}, {1, true, -1}, {2, true, -1}, {-1, true, 4}} {
		if k := c.Next(x.sw, x.up); k != x.want {
			t.Errorf("Next(%d, %v) = %d", x.sw, x.up, k)
		}
	}
	c.Take(0)
	if c.Next(0, true) != 2 || c.Of(0) != 2 {
		t.Error("after Take")
	}
	if channel.New().Next(0, true) != -1 || channel.New().Of(0) != 0 {
		t.Error("an empty channel")
	}
}

func TestRemainingFlightsKeepTheirOrder(t *testing.T) { // 34.3
	r := rand.New(rand.NewSource(53))
	for range 200 {
		c := channel.New()
		var want []channel.Flight
		for i := range 60 {
			f := flight(r.Intn(3), r.Intn(2) == 0, strconv.Itoa(i))
			k := r.Intn(len(want) + 1)
			switch r.Intn(4) {
			case 0, 1:
				c.Send(f)
				want = append(want, f)
			case 2:
				got, e := c.Take(k)
				if k == len(want) {
					if e != api.ErrNone {
						t.Fatal(e)
					}
					continue
				}
				if got != want[k] || e != api.OK {
					t.Fatal(got, e)
				}
				want = slices.Delete(want, k, k+1)
			default:
				if e := c.Twice(k); k < len(want) {
					want = append(want, want[k])
				} else if e != api.ErrNone {
					t.Fatal(e)
				}
			}
			holds(t, c, want...)
		}
	}
}

func TestNil(t *testing.T) { // 34.1
	var c *channel.Channel
	f, e := c.Look(0)
	g, e2 := c.Take(-1)
	if c.Len() != 0 || c.Lost() != 0 || c.Send(a) != api.ErrNil || f != (channel.Flight{}) || e != api.ErrNil || g != (channel.Flight{}) || e2 != api.ErrNil || c.Twice(0) != api.ErrNil || c.Of(0) != 0 {
		t.Error("nil channel")
	}
	c.Next(0, true) // does not panic
}
