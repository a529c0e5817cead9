package skew_test

import (
	"math"
	"math/rand"
	"testing"

	"turnout/api"
	"turnout/clock"
	"turnout/skew"
	"turnout/span"
)

const end = clock.End

func of(lo, hi int) span.Span { return span.Span{Lo: lo, Hi: hi} }

func known(lo, hi, at int) skew.Estimate {
	return skew.Estimate{Known: true, S: of(lo, hi), At: at}
}

func TestFresh(t *testing.T) { // 15.1
	for _, x := range []struct {
		t1, t2, t4, most int
		want             span.Span
	}{
		{10, 27, 14, 0, of(13, 17)}, {10, 27, 14, 500, of(11, 19)}, {10, 27, 13, 500, of(12, 19)}, {10, 27, 10, 500, of(17, 17)}, {0, -5, 1000, 1, of(-1006, -4)}, {10, 27, 14, -9, of(13, 17)}, {10, 27, 14, 5000, of(9, 21)},
	} {
		if s := skew.Fresh(x.t1, x.t2, x.t4, x.most); s != x.want {
			t.Errorf("%v: %v; want %v", x, s, x.want)
		}
	}
}

func TestMeet(t *testing.T) { // 15.1
	none := skew.Estimate{}
	for i, x := range []struct {
		e                skew.Estimate
		t1, t2, t4, most int
		want             skew.Estimate
		err              api.Errno
	}{
		{none, 10, 27, 14, 0, known(13, 17, 14), api.OK}, {none, 0, 5, 0, 0, known(5, 5, 0), api.OK}, {none, 0, 0, end, 0, known(-end, 0, end), api.OK}, {none, 0, 1 << 50, 0, 0, known(1<<50, 1<<50, 0), api.OK},
		{known(13, 17, 14), 20, 38, 24, 0, known(14, 17, 24), api.OK}, {known(13, 17, 14), 20, 38, 24, 100, known(13, 18, 24), api.OK}, {known(13, 17, 14), 14, 31, 14, 0, known(17, 17, 14), api.OK}, {known(13, 17, 14), 5, 31, 14, 0, known(17, 17, 14), api.OK},
		{known(13, 17, 14), 20, 48, 24, 0, known(13, 17, 14), api.ErrState}, {known(13, 17, 14), 1014, 1034, 1014, 1, known(13, 17, 14), api.ErrState}, {known(13, 17, 14), 1014, 1034, 1014, 3, known(20, 20, 1014), api.OK},
		{none, -1, 27, 14, 0, none, api.ErrArg}, {none, 15, 27, 14, 0, none, api.ErrArg}, {none, 0, 27, end + 1, 0, none, api.ErrArg}, {none, 10, 1<<50 + 1, 14, 0, none, api.ErrArg}, {none, 10, -1<<50 - 1, 14, 0, none, api.ErrArg},
		{known(13, 17, 15), 10, 27, 14, 0, known(13, 17, 15), api.ErrArg}, {skew.Estimate{S: of(1, 2), At: 99}, 10, 27, 14, 0, known(13, 17, 14), api.OK}, {none, math.MinInt, math.MinInt, math.MaxInt, 0, none, api.ErrArg},
		{known(13, 17, math.MinInt), 10, 27, 14, 0, known(13, 17, 14), api.OK}, {known(9, 3, 14), 20, 27, 24, 0, known(9, 3, 14), api.ErrState}, {known(13, 17, 15), 10, 99, 14, 0, known(13, 17, 15), api.ErrArg},
	} {
		if got, e := skew.Meet(x.e, x.t1, x.t2, x.t4, x.most); got != x.want || e != x.err {
			t.Errorf("%d: %v, %d; want %v, %d", i, got, e, x.want, x.err)
		}
	}
}

func TestOn(t *testing.T) { // 15.2
	e := known(13, 17, 1000)
	for _, x := range []struct {
		e       skew.Estimate
		t, most int
		want    span.Span
	}{
		{e, 1000, 500, of(13, 17)}, {e, 1010, 100, of(12, 18)}, {e, 1011, 100, of(11, 19)}, {e, 990, 100, of(12, 18)}, {e, 989, 100, of(11, 19)}, {e, 1010, 0, of(13, 17)}, {e, 1010, -3, of(13, 17)}, {e, 1010, 1001, of(3, 27)}, {skew.Estimate{S: of(13, 17), At: 1000}, 1000, 5, of(1, 0)},
		{skew.Estimate{}, 0, 0, of(1, 0)}, {e, math.MaxInt, 1000, of(13-end, 17+end)}, {e, math.MinInt, 1000, of(13-end, 17+end)}, {known(13, 17, math.MinInt), math.MaxInt, 1, of(13-(end+999)/1000, 17+(end+999)/1000)},
	} {
		if s := skew.On(x.e, x.t, x.most); s != x.want {
			t.Errorf("On(%v, %d, %d) = %v; want %v", x.e, x.t, x.most, s, x.want)
		}
	}
}

func TestAimAndMiss(t *testing.T) { // 15.2
	for _, x := range []struct {
		e                  skew.Estimate
		t, most, aim, half int
		ok                 bool
	}{
		{known(13, 17, 14), 20, 0, 35, 2, true}, {known(13, 16, 14), 20, 0, 34, 2, true}, {known(-4, -3, 14), 20, 0, 16, 1, true}, {known(13, 17, 14), 24, 100, 39, 3, true}, {known(13, 17, 14), 0, 0, 15, 2, true}, {known(13, 17, 14), end, 0, end + 15, 2, true},
		{known(13, 17, 14), -1, 0, 0, 0, false}, {known(13, 17, 14), end + 1, 0, 0, 0, false}, {skew.Estimate{S: of(13, 17), At: 14}, 20, 0, 0, 0, false}, {skew.Estimate{}, 0, 0, 0, 0, false}, {known(13, 17, 14), math.MinInt, 0, 0, 0, false},
	} {
		if aim, half, ok := skew.Aim(x.e, x.t, x.most); aim != x.aim || half != x.half || ok != x.ok {
			t.Errorf("Aim(%v, %d, %d) = %d, %d, %v", x.e, x.t, x.most, aim, half, ok)
		}
	}
	for _, x := range [][2]int{{0, 2}, {1, 4}, {5, 12}, {-1, 2}, {math.MinInt, 2}, {1 << 30, 1<<31 + 2}, {1<<30 + 1, 1<<31 + 2}, {math.MaxInt, 1<<31 + 2}} {
		if n := skew.Miss(x[0]); n != x[1] {
			t.Errorf("Miss(%d) = %d", x[0], n)
		}
	}
}

// drift lets n ticks pass with changing rates, and calls then after each tick.
func drift(r *rand.Rand, c *clock.Clocks, most, n int, then func()) {
	for range n {
		if r.Intn(10) == 0 {
			c.Rate(0, r.Intn(2*most+1)-most)
		}
		c.Tick(1)
		then()
	}
}

func TestOffsetsLieInEstimates(t *testing.T) { // 15.3
	r := rand.New(rand.NewSource(24))
	for range 200 {
		most := r.Intn(501)
		c, _ := clock.New([]int{r.Intn(200) - 100}, most)
		var e skew.Estimate
		inside := func() {
			if e.Known && !span.Has(skew.On(e, c.Real(), most), c.Apart(0)) {
				t.Fatal(e, c.Real(), c.Apart(0))
			}
		}
		for range 8 {
			drift(r, c, most, r.Intn(60), inside)
			t1 := c.Real()
			drift(r, c, most, r.Intn(30), inside)
			t2 := c.Read(0)
			drift(r, c, most, r.Intn(30), inside)
			next, err := skew.Meet(e, t1, t2, c.Real(), most)
			if err != api.OK {
				t.Fatal(e, t1, t2, c.Real(), err)
			}
			e = next
			inside()
		}
	}
}

func TestClocksShowTheTimeAimedAt(t *testing.T) { // 15.3
	r := rand.New(rand.NewSource(25))
	for range 300 {
		most := r.Intn(501)
		c, _ := clock.New([]int{r.Intn(200) - 100}, most)
		e := skew.Estimate{Known: true, S: span.Widen(span.Of(c.Apart(0), c.Apart(0)), r.Intn(5)), At: 0}
		at := 100 + r.Intn(100)
		aim, half, _ := skew.Aim(e, at, most)
		shown := -1
		drift(r, c, most, 800, func() {
			if shown < 0 && c.Read(0) >= aim {
				shown = c.Real()
			}
		})
		if d := max(shown-at, at-shown); shown < 0 || d >= skew.Miss(half) {
			t.Fatal(at, aim, half, shown)
		}
	}
}
