package clock_test

import (
	"math"
	"math/big"
	"math/rand"
	"testing"

	"turnout/api"
	"turnout/clock"
)

func made(t *testing.T, most int, starts ...int) *clock.Clocks {
	t.Helper()
	c, e := clock.New(starts, most)
	if e != api.OK || c == nil {
		t.Fatal(starts, most, e)
	}
	return c
}

// floorDiv divides rounding down.
func floorDiv(a, b int) int {
	return int(new(big.Int).Div(big.NewInt(int64(a)), big.NewInt(int64(b))).Int64())
}

func TestNew(t *testing.T) { // 14.1
	for _, x := range []struct {
		starts []int
		most   int
		e      api.Errno
	}{
		{[]int{0}, 0, api.OK}, {make([]int, 8), 500, api.OK}, {[]int{1 << 20, -1 << 20}, 1, api.OK}, {nil, 0, api.ErrArg}, {make([]int, 9), 0, api.ErrArg}, {[]int{0, 1<<20 + 1}, 0, api.ErrArg}, {[]int{0, -1<<20 - 1}, 0, api.ErrArg}, {[]int{math.MinInt}, 0, api.ErrArg},
		{[]int{0}, -1, api.ErrArg}, {[]int{0}, 501, api.ErrArg}, {[]int{0}, math.MinInt, api.ErrArg},
	} {
		c, e := clock.New(x.starts, x.most)
		if e != x.e || (c == nil) != (e != api.OK) {
			t.Errorf("New(%v, %d) = %v, %d", x.starts, x.most, c, e)
		}
	}
	c := made(t, 10, 5, -7)
	if c.Real() != 0 || c.Read(0) != 5 || c.Apart(0) != 5 || c.Read(1) != -7 || c.Apart(1) != -7 {
		t.Error("initially")
	}
	if clock.Far != 1<<20 || clock.End != 1<<40 {
		t.Error("constants")
	}
}

func TestTick(t *testing.T) { // 14.1
	c := made(t, 0, 3)
	c.Tick(10)
	c.Tick(-5)
	c.Tick(math.MinInt)
	c.Tick(0)
	if c.Real() != 10 || c.Read(0) != 13 || c.Apart(0) != 3 {
		t.Error(c.Real(), c.Read(0))
	}
	c.Tick(math.MaxInt)
	c.Tick(1)
	if c.Real() != clock.End || c.Read(0) != clock.End+3 {
		t.Error(c.Real(), c.Read(0))
	}
	c = made(t, 500, 0)
	c.Rate(0, 500)
	c.Tick(clock.End - 1)
	c.Tick(5)
	c.Tick(5)
	if c.Real() != clock.End || c.Apart(0) != clock.End/2 {
		t.Error(c.Real(), c.Apart(0))
	}
}

func TestRate(t *testing.T) { // 14.1
	c := made(t, 20, 0, 0)
	for _, x := range []struct {
		i, r int
		e    api.Errno
	}{{0, 20, api.OK}, {1, -20, api.OK}, {0, 21, api.ErrArg}, {0, -21, api.ErrArg}, {2, 0, api.ErrNone}, {-1, 0, api.ErrNone}, {2, 99, api.ErrNone}, {math.MaxInt, 0, api.ErrNone}, {0, math.MinInt, api.ErrArg}} {
		if e := c.Rate(x.i, x.r); e != x.e {
			t.Errorf("Rate(%d, %d) = %d", x.i, x.r, e)
		}
	}
	c.Tick(1000)
	if c.Apart(0) != 20 || c.Apart(1) != -20 || c.Real() != 1000 {
		t.Error(c.Apart(0), c.Apart(1))
	}
	c.Rate(0, 0)
	if c.Apart(0) != 20 {
		t.Error("a new rate counts for the following ticks only")
	}
}

func TestRead(t *testing.T) { // 14.2
	c := made(t, 500, 0)
	c.Rate(0, -500)
	for i, want := range []int{0, 0, 1, 1, 2, 2} { // 0, -0.5, -1, -1.5, ... rounded down
		if c.Read(0) != want || c.Apart(0) != want-i {
			t.Errorf("after %d ticks: %d, %d", i, c.Read(0), c.Apart(0))
		}
		c.Tick(1)
	}
	if c.Read(1) != 0 || c.Read(-1) != 0 || c.Apart(1) != 0 || c.Apart(-1) != 0 || c.Read(math.MaxInt) != 0 {
		t.Error("no such clock")
	}
	r := rand.New(rand.NewSource(22))
	for range 200 {
		starts := []int{r.Intn(100) - 50, r.Intn(1 << 20)}
		c := made(t, 500, starts...)
		sum, real, rate := [2]int{}, 0, [2]int{}
		for range 30 {
			i := r.Intn(2)
			rate[i] = r.Intn(1001) - 500
			c.Rate(i, rate[i])
			n := r.Intn(50)
			c.Tick(n)
			real += n
			for i := range 2 {
				before := c.Read(i)
				sum[i] += n * rate[i]
				if want := real + starts[i] + floorDiv(sum[i], 1000); c.Read(i) != want || c.Apart(i) != want-real || before != want {
					t.Fatal(i, c.Read(i), want)
				}
			}
		}
	}
}

func TestDrift(t *testing.T) { // 14.2
	for _, x := range []struct{ span, most, want int }{
		{0, 500, 0}, {1000, 0, 0}, {1, 1, 1}, {999, 1, 1}, {1000, 1, 1}, {1001, 1, 2}, {3, 500, 2}, {7, 1000, 7}, {7, 1001, 7}, {7, math.MaxInt, 7}, {-5, 500, 0}, {5, -500, 0}, {-5, -500, 0}, {math.MinInt, math.MinInt, 0},
		{1 << 40, 1000, 1 << 40}, {math.MaxInt, 1000, 1 << 40}, {1<<40 + 5, 1, (1<<40 + 999) / 1000}, {math.MaxInt, math.MaxInt, 1 << 40}, {10, 100, 1}, {11, 100, 2},
	} {
		if n := clock.Drift(x.span, x.most); n != x.want {
			t.Errorf("Drift(%d, %d) = %d; want %d", x.span, x.most, n, x.want)
		}
	}
}

func TestOffsetsChangeByAtMostDrift(t *testing.T) { // 14.3
	r := rand.New(rand.NewSource(23))
	for range 300 {
		most := r.Intn(501)
		c := made(t, most, 0)
		type moment struct{ real, apart, read int }
		var past []moment
		for range 20 {
			c.Rate(0, r.Intn(2*most+1)-most)
			c.Tick(r.Intn(40))
			now := moment{c.Real(), c.Apart(0), c.Read(0)}
			for _, m := range past {
				change := max(now.apart-m.apart, m.apart-now.apart)
				if change > clock.Drift(now.real-m.real, most) || now.read < m.read {
					t.Fatal(m, now, most)
				}
			}
			past = append(past, now)
		}
	}
}

func TestNil(t *testing.T) { // 14.1, 14.2
	var c *clock.Clocks
	c.Tick(5)
	if c.Real() != 0 || c.Rate(0, 0) != api.ErrNone || c.Rate(-1, 9999) != api.ErrNone || c.Read(0) != 0 || c.Apart(0) != 0 {
		t.Error("nil clocks")
	}
}

func TestStartsAreCopied(t *testing.T) { // 14.1 with R4
	starts := []int{5}
	c := made(t, 0, starts...)
	d, _ := clock.New(starts, 0)
	starts[0] = 9
	if c.Read(0) != 5 || d.Read(0) != 5 {
		t.Error(c.Read(0), d.Read(0))
	}
}
