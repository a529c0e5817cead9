package meter_test

import (
	"math"
	"math/big"
	"math/rand"
	"slices"
	"testing"

	"turnout/float"
	"turnout/meter"
)

var (
	inf     = math.Inf(1)
	nan     = math.Float64frombits(0x7FF8000000000001)
	strange = math.Float64frombits(0xFFF8000000000777) // another NaN
	negZero = math.Copysign(0, -1)
)

func same(a, b float64) bool { return math.Float64bits(a) == math.Float64bits(b) }

func TestRate(t *testing.T) { // 43.1
	for _, x := range []struct {
		n, span int
		want    float64
	}{{4, 2, 2}, {1, 3, 1.0 / 3}, {0, 5, 0}, {0, -5, negZero}, {-3, 2, -1.5}, {0, 0, nan}, {1, 0, inf}, {-1, 0, -inf}, {math.MaxInt, 1, 1 << 63}, {1, math.MaxInt, 1.0 / (1 << 63)}, {1<<53 + 1, 1, 1 << 53}} {
		if r := meter.Rate(x.n, x.span); !same(r, x.want) {
			t.Errorf("Rate(%d, %d) = %v", x.n, x.span, r)
		}
	}
}

func TestMix(t *testing.T) { // 43.1
	for _, x := range []struct{ old, x, share, want float64 }{
		{2, 0, 0.5, 1}, {0, 4, 0.25, 1}, {nan, 7, 0.5, 7}, {strange, 7, -1, 7}, {nan, strange, 0.5, nan}, {nan, negZero, nan, negZero}, {3, nan, 0.5, 3}, {3, strange, 2, 3}, {3, 7, nan, 3}, {3, 7, strange, 3}, {3, 7, 0, 3}, {3, 7, negZero, 3}, {3, 7, -0.5, 3}, {3, 7, -inf, 3},
		{3, 7, 1, 7}, {3, 7, 2, 7}, {3, 7, inf, 7}, {inf, -inf, 0.5, nan}, {-inf, inf, 0.5, nan}, {inf, -inf, 1, -inf}, {inf, -inf, 0, inf}, {inf, 5, 0.5, inf}, {5, -inf, 0.5, -inf}, {inf, inf, 0.5, inf}, {negZero, negZero, 0.5, negZero}, {negZero, 7, 0, negZero}, {3, negZero, 1, negZero},
		{math.MaxFloat64, math.MaxFloat64, 0.5, math.MaxFloat64},
	} {
		if got := meter.Mix(x.old, x.x, x.share); !same(got, x.want) {
			t.Errorf("Mix(%v, %v, %v) = %v; want %v", x.old, x.x, x.share, got, x.want)
		}
	}
	// Every product and the sum are rounded.
	round := func(x *big.Float) float64 { f, _ := x.Float64(); return f }
	exact := func(x float64) *big.Float { return new(big.Float).SetPrec(2000).SetFloat64(x) }
	r := rand.New(rand.NewSource(63))
	for range 5000 {
		old, x, share := r.NormFloat64(), r.NormFloat64(), r.Float64()
		rest := round(new(big.Float).Sub(exact(1), exact(share)))
		a := round(new(big.Float).SetPrec(2000).Mul(exact(old), exact(rest)))
		b := round(new(big.Float).SetPrec(2000).Mul(exact(x), exact(share)))
		want := round(new(big.Float).SetPrec(2000).Add(exact(a), exact(b)))
		if got := meter.Mix(old, x, share); share > 0 && got != want {
			t.Fatal(old, x, share, got, want)
		}
	}
}

func TestSortMiddleSpread(t *testing.T) { // 43.2
	l := []float64{1, strange, 0, negZero, inf, -inf, -1, 1}
	before := slices.Clone(l)
	if got := meter.Sort(l); !slices.EqualFunc(got, []float64{-inf, -1, negZero, 0, 1, 1, inf, nan}, same) || !slices.EqualFunc(l, before, same) {
		t.Error(got, l)
	}
	for i, x := range []struct {
		l              []float64
		middle, spread float64
	}{
		{nil, nan, 0}, {[]float64{5}, 5, 0}, {[]float64{3, 1}, 1, 2}, {[]float64{3, 1, 2}, 2, 2}, {[]float64{4, 3, 1, 2}, 2, 3}, {[]float64{0, negZero}, negZero, 0}, {[]float64{negZero}, negZero, 0}, {[]float64{strange}, nan, nan}, {[]float64{strange, 1}, 1, nan}, {[]float64{strange, strange, 1}, nan, nan},
		{[]float64{inf, inf}, inf, nan}, {[]float64{-inf, 2, inf}, 2, inf}, {[]float64{-inf}, -inf, nan}, {[]float64{-inf, 5}, -inf, inf}, {[]float64{-math.MaxFloat64, math.MaxFloat64}, -math.MaxFloat64, inf},
	} {
		if m, s := meter.Middle(x.l), meter.Spread(x.l); !same(m, x.middle) || !same(s, x.spread) {
			t.Errorf("%d: Middle %v, Spread %v; want %v, %v", i, m, s, x.middle, x.spread)
		}
	}
	if len(meter.Sort(nil)) != 0 {
		t.Error("nothing")
	}
	r := rand.New(rand.NewSource(64))
	for range 500 { // 43.4
		var l []float64
		counts := map[uint64]int{}
		for range r.Intn(20) {
			x := []float64{nan, strange, inf, -inf, 0, negZero, r.NormFloat64(), math.Float64frombits(r.Uint64()), float64(r.Intn(3))}[r.Intn(9)]
			l = append(l, x)
			counts[float.Bits(x)]++
		}
		got := meter.Sort(l)
		for i, x := range got {
			counts[math.Float64bits(x)]--
			if i > 0 && float.Compare(got[i-1], x) > 0 {
				t.Fatal(l, got)
			}
		}
		for _, n := range counts {
			if n != 0 || len(got) != len(l) {
				t.Fatal(l, got)
			}
		}
		if len(l) > 0 && !same(meter.Middle(l), got[(len(l)-1)/2]) {
			t.Fatal(l)
		}
	}
}

func is(t *testing.T, m *meter.Meter, value float64, count, since int) {
	t.Helper()
	if !same(m.Value(), value) || m.Counted() != count || m.Since() != since {
		t.Fatal(m.Value(), m.Counted(), m.Since())
	}
}

func TestMeter(t *testing.T) { // 43.3
	m := meter.New(0.5)
	is(t, m, nan, 0, 0)
	m.Count(3)
	m.Count(1)
	is(t, m, nan, 4, 0)
	m.Close(0)
	m.Close(-3)
	m.Close(math.MinInt)
	m.Close(1<<50 + 1)
	m.Close(math.MaxInt)
	is(t, m, nan, 4, 0)
	m.Close(2)
	is(t, m, 2, 0, 2)
	m.Close(2)
	m.Close(1)
	is(t, m, 2, 0, 2)
	m.Close(4)
	is(t, m, 1, 0, 4)
	m.Count(5)
	m.Count(-6)
	is(t, m, 1, 5, 4)
	m.Count(-5)
	is(t, m, 1, 0, 4)
	m.Count(-1)
	m.Count(1<<50 + 1)
	m.Count(math.MaxInt)
	m.Count(math.MinInt)
	is(t, m, 1, 0, 4)
	m.Count(1 << 50)
	m.Count(1)
	m.Count(math.MaxInt)
	is(t, m, 1, 1<<50, 4)
	m.Close(1 << 50)
	is(t, m, meter.Mix(1, meter.Rate(1<<50, 1<<50-4), 0.5), 0, 1<<50)
}

func TestNilMeter(t *testing.T) { // 43.3
	var m *meter.Meter
	m.Count(3)
	m.Close(5)
	is(t, m, nan, 0, 0)
}

func TestValuesAreCosts(t *testing.T) { // 43.4
	r := rand.New(rand.NewSource(65))
	for _, share := range []float64{nan, strange, inf, -inf, 0, negZero, 0.3, 1, 1e-300, 0.9999, 5, -2} {
		m := meter.New(share)
		at := 0
		for range 50 {
			m.Count(r.Intn(1000))
			at += 1 + r.Intn(10)
			m.Close(at)
			if v := m.Value(); !float.Cost(v) || math.IsInf(v, 0) {
				t.Fatal(share, v)
			}
		}
	}
}
