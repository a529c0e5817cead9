package float_test

import (
	"encoding/binary"
	"math"
	"math/rand"
	"testing"

	"turnout/api"
	"turnout/float"
)

const nan = 0x7FF8000000000001

var (
	inf     = math.Inf(1)
	negZero = math.Copysign(0, -1)
)

// nans are several NaNs: quiet and signalling ones, with both signs.
var nans = []uint64{nan, 0x7FF8000000000000, 0x7FF0000000000001, 0xFFF8000000000001, 0xFFFFFFFFFFFFFFFF, 0x7FFFFFFFFFFFFFFF, 0xFFF0000000000001}

// ascending are numbers of all classes in the order of Compare.
func ascending() []float64 {
	return []float64{-inf, -math.MaxFloat64, -2, -1, -math.SmallestNonzeroFloat64, negZero, 0, math.SmallestNonzeroFloat64, 1, 1.5, 2, math.MaxFloat64, inf, math.Float64frombits(nan)}
}

// same tells whether numbers have the same bits.
func same(a, b float64) bool { return math.Float64bits(a) == math.Float64bits(b) }

func TestClass(t *testing.T) { // 3.1
	want := []int{1, 2, 2, 2, 2, 3, 4, 5, 5, 5, 5, 5, 6, 0}
	for i, x := range ascending() {
		if c := float.Class(x); c != want[i] {
			t.Errorf("Class(%v) = %d; want %d", x, c, want[i])
		}
	}
	for _, n := range nans {
		if c := float.Class(math.Float64frombits(n)); c != float.NaN {
			t.Errorf("Class(%x) = %d", n, c)
		}
	}
	names := []int{float.NaN, float.NegInf, float.Negative, float.NegZero, float.PosZero, float.Positive, float.PosInf}
	for i, c := range names {
		if c != i {
			t.Error(i, c)
		}
	}
}

func TestCleanBitsOf(t *testing.T) { // 3.1
	for _, n := range nans {
		x := math.Float64frombits(n)
		if !same(float.Clean(x), math.Float64frombits(nan)) || float.Bits(x) != nan || math.Float64bits(float.Of(n)) != nan {
			t.Errorf("%x: %x, %x, %x", n, math.Float64bits(float.Clean(x)), float.Bits(x), math.Float64bits(float.Of(n)))
		}
	}
	for _, x := range ascending() {
		if !same(float.Clean(x), x) || float.Bits(x) != math.Float64bits(x) || !same(float.Of(math.Float64bits(x)), x) {
			t.Error(x)
		}
	}
	if float.Bits(1) != 0x3FF0000000000000 || float.Bits(negZero) != 1<<63 || float.Of(0x4000000000000000) != 2 {
		t.Error("bits")
	}
}

func TestCompare(t *testing.T) { // 3.2, 3.4
	l := ascending()
	for i, a := range l {
		for j, b := range l {
			want := 0
			if i < j {
				want = -1
			}
			if i > j {
				want = 1
			}
			if c := float.Compare(a, b); c != want {
				t.Errorf("Compare(%v, %v) = %d; want %d", a, b, c, want)
			}
		}
	}
	for _, n := range nans {
		x := math.Float64frombits(n)
		if float.Compare(x, math.Float64frombits(nan)) != 0 || float.Compare(x, inf) != 1 || float.Compare(-inf, x) != -1 {
			t.Errorf("%x", n)
		}
	}
}

func TestLeastMost(t *testing.T) { // 3.2
	other := math.Float64frombits(0xFFF8000000000001)
	for i, x := range []struct {
		l           []float64
		least, most float64
	}{
		{nil, inf, -inf}, {[]float64{}, inf, -inf}, {[]float64{3, 1, 2}, 1, 3}, {[]float64{0, negZero, 0}, negZero, 0}, {[]float64{negZero, 0}, negZero, 0}, {[]float64{0}, 0, 0}, {[]float64{negZero}, negZero, negZero},
		{[]float64{inf, -inf}, -inf, inf}, {[]float64{inf}, inf, inf}, {[]float64{-inf}, -inf, -inf}, {[]float64{1, other, -1}, math.NaN(), math.NaN()}, {[]float64{other}, math.NaN(), math.NaN()}, {[]float64{-1, 5, other}, math.NaN(), math.NaN()},
		{[]float64{-2, -3}, -3, -2},
	} {
		if a, b := float.Least(x.l), float.Most(x.l); !same(a, float.Clean(x.least)) || !same(b, float.Clean(x.most)) {
			t.Errorf("%d: Least %v, Most %v; want %v, %v", i, a, b, x.least, x.most)
		}
	}
}

func TestSum(t *testing.T) { // 3.2
	for i, x := range []struct {
		l    []float64
		want float64
	}{
		{nil, 0}, {[]float64{negZero}, 0}, {[]float64{negZero, negZero}, 0}, {[]float64{1, 2, 3.5}, 6.5}, {[]float64{1e16, 1, -1e16}, 0}, {[]float64{1e16, -1e16, 1}, 1}, {[]float64{1, 1e16, -1e16}, 0},
		{[]float64{inf, -inf}, float.Of(nan)}, {[]float64{inf, 1}, inf}, {[]float64{math.Float64frombits(0xFFF8000000000009), 1}, float.Of(nan)}, {[]float64{math.MaxFloat64, math.MaxFloat64, -inf}, float.Of(nan)},
	} {
		if s := float.Sum(x.l); !same(s, x.want) {
			t.Errorf("%d: Sum = %v; want %v", i, s, x.want)
		}
	}
}

func TestCostPlus(t *testing.T) { // 3.3
	want := []bool{false, false, false, false, false, true, true, true, true, true, true, true, true, false}
	for i, x := range ascending() {
		if float.Cost(x) != want[i] {
			t.Errorf("Cost(%v) = %v", x, !want[i])
		}
	}
	for _, x := range []struct{ a, b, want float64 }{
		{1, 2, 3}, {negZero, negZero, 0}, {negZero, 0, 0}, {1, -1, 0}, {inf, -inf, float.Of(nan)}, {inf, 1, inf}, {-1, -1, -2}, {negZero, 5, 5}, {-inf, -1, -inf}, {math.MaxFloat64, math.MaxFloat64, inf},
		{math.Float64frombits(0x7FF0000000000001), 1, float.Of(nan)}, {1, math.Float64frombits(0xFFFFFFFFFFFFFFFF), float.Of(nan)},
	} {
		if p := float.Plus(x.a, x.b); !same(p, x.want) {
			t.Errorf("Plus(%v, %v) = %v; want %v", x.a, x.b, p, x.want)
		}
	}
}

func TestCodeParse(t *testing.T) { // 3.3, 3.4
	bits := func(n uint64) string { return string(binary.BigEndian.AppendUint64(nil, n)) }
	check := func(x float64) {
		t.Helper()
		s := float.Code(x)
		if s != bits(float.Bits(x)) {
			t.Errorf("Code(%v) = %x", x, s)
		}
		if y, e := float.Parse(s); !same(y, float.Clean(x)) || e != api.OK {
			t.Errorf("Parse(%x) = %v, %d", s, y, e)
		}
	}
	for _, x := range ascending() {
		check(x)
	}
	r := rand.New(rand.NewSource(3))
	for range 2000 {
		check(math.Float64frombits(r.Uint64()))
	}
	for _, n := range nans {
		check(math.Float64frombits(n))
		if x, e := float.Parse(bits(n)); n != nan && (!same(x, 0) || e != api.ErrForm) {
			t.Errorf("Parse(%x) = %v, %d", n, x, e)
		}
	}
	for _, s := range []string{"", "1234567", "123456789", "\x7f"} {
		if x, e := float.Parse(s); !same(x, 0) || e != api.ErrSize {
			t.Errorf("Parse(%q) = %v, %d", s, x, e)
		}
	}
	if x, e := float.Parse("\x3f\xf0\x00\x00\x00\x00\x00\x00"); x != 1 || e != api.OK {
		t.Error(x, e)
	}
}

func TestSumsOfCosts(t *testing.T) { // 3.4
	l := ascending()
	for _, a := range l {
		for _, b := range l {
			if float.Cost(a) && float.Cost(b) {
				s := float.Plus(a, b)
				if !float.Cost(s) || s < a || s < b {
					t.Error(a, b, s)
				}
			}
		}
	}
}
