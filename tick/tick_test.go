package tick_test

import (
	"math"
	"math/big"
	"math/rand"
	"testing"

	"turnout/api"
	"turnout/tick"
)

const top = api.MaxTime

// edges are numbers at and beyond the limits, and ordinary ones.
var edges = []int{
	0, 1, -1, 2, -2, 3, 7, -7, 1000, 4095, 4096, 4097, 1 << 25, 1<<25 + 1, -(1 << 25), -(1<<25 + 1), 1 << 38,
	top - 1, top, top + 1, -top + 1, -top, -top - 1, 1 << 60, -1 << 60, math.MaxInt, math.MinInt, math.MinInt + 1,
}

// exact tells what a call must return for an exact result.
func exact(x *big.Int, args ...int) (int, api.Errno) {
	for _, a := range args {
		if a < -top || a > top {
			return 0, api.ErrOver
		}
	}
	if !x.IsInt64() || x.Int64() < -top || x.Int64() > top {
		return 0, api.ErrOver
	}
	return int(x.Int64()), api.OK
}

func number(n int) *big.Int { return big.NewInt(int64(n)) }

func TestSumsDifferencesProducts(t *testing.T) { // 1.1
	for _, a := range edges {
		for _, b := range edges {
			for _, x := range []struct {
				name string
				f    func(a, b int) (int, api.Errno)
				want *big.Int
			}{
				{"Add", tick.Add, new(big.Int).Add(number(a), number(b))},
				{"Sub", tick.Sub, new(big.Int).Sub(number(a), number(b))},
				{"Mul", tick.Mul, new(big.Int).Mul(number(a), number(b))},
			} {
				n, e := x.f(a, b)
				if wn, we := exact(x.want, a, b); n != wn || e != we {
					t.Errorf("%s(%d, %d) = %d, %d; want %d, %d", x.name, a, b, n, e, wn, we)
				}
			}
		}
		n, e := tick.Neg(a)
		if wn, we := exact(new(big.Int).Neg(number(a)), a); n != wn || e != we {
			t.Errorf("Neg(%d) = %d, %d; want %d, %d", a, n, e, wn, we)
		}
	}
}

func TestScale(t *testing.T) { // 1.1
	for _, x := range []struct {
		t, num, den, n int
		e              api.Errno
	}{
		{-1, 1, 2, -1, api.OK}, {1, 1, 2, 0, api.OK}, {1, -1, 2, -1, api.OK}, {-1, -1, 2, 0, api.OK}, {-4, 1, 2, -2, api.OK},
		{7, 500, 1000, 3, api.OK}, {top, 4096, 4096, top, api.OK}, {-top, 4096, 4096, -top, api.OK}, {top, -4096, 4096, -top, api.OK},
		{top, 4096, 4095, 0, api.ErrOver}, {-top, 4096, 4095, 0, api.ErrOver}, {top, 0, 1, 0, api.OK}, {top + 1, 0, 1, 0, api.ErrOver}, {-top - 1, 1, 4096, 0, api.ErrOver},
		{1, 4097, 1, 0, api.ErrArg}, {1, -4097, 1, 0, api.ErrArg}, {1, 1, 0, 0, api.ErrArg}, {1, 1, -1, 0, api.ErrArg}, {1, 1, 4097, 0, api.ErrArg},
		{top + 1, 4097, 1, 0, api.ErrArg}, {math.MinInt, 1, 0, 0, api.ErrArg}, {math.MaxInt, 1, 1, 0, api.ErrOver},
	} {
		if n, e := tick.Scale(x.t, x.num, x.den); n != x.n || e != x.e {
			t.Errorf("Scale(%d, %d, %d) = %d, %d; want %d, %d", x.t, x.num, x.den, n, e, x.n, x.e)
		}
	}
	for _, a := range edges {
		for _, num := range []int{-4096, -4095, -1, 0, 1, 3, 4096} {
			for _, den := range []int{1, 2, 3, 1000, 4095, 4096} {
				q := new(big.Int).Div(new(big.Int).Mul(number(a), number(num)), number(den)) // Euclidean: rounds down
				n, e := tick.Scale(a, num, den)
				if wn, we := exact(q, a); n != wn || e != we {
					t.Errorf("Scale(%d, %d, %d) = %d, %d; want %d, %d", a, num, den, n, e, wn, we)
				}
			}
		}
	}
}

func TestClamp(t *testing.T) { // 1.1
	for _, a := range edges {
		want := a
		if a > top {
			want = top
		}
		if a < -top {
			want = -top
		}
		if n := tick.Clamp(a); n != want {
			t.Errorf("Clamp(%d) = %d; want %d", a, n, want)
		}
	}
}

func push(n int) tick.Op { return tick.Op{Kind: tick.Push, N: n} }

func op(kind int) tick.Op { return tick.Op{Kind: kind} }

func TestEval(t *testing.T) { // 1.2
	full := []tick.Op{push(1)}
	for len(full) < tick.MaxOps {
		full = append(full, op(tick.Turn))
	}
	for i, x := range []struct {
		l []tick.Op
		n int
		e api.Errno
	}{
		{[]tick.Op{push(3), push(4), op(tick.Times), op(tick.Turn)}, -12, api.OK},
		{[]tick.Op{push(3), push(4), op(tick.Plus)}, 7, api.OK}, {[]tick.Op{push(3), push(4), op(tick.Minus)}, -1, api.OK},
		{[]tick.Op{push(3), push(4), op(tick.Least)}, 3, api.OK}, {[]tick.Op{push(4), push(3), op(tick.Least)}, 3, api.OK},
		{[]tick.Op{push(3), push(4), op(tick.Most)}, 4, api.OK}, {[]tick.Op{push(4), push(3), op(tick.Most)}, 4, api.OK},
		{[]tick.Op{push(5), push(2), push(3), op(tick.Minus), op(tick.Times)}, -5, api.OK},
		{[]tick.Op{push(top)}, top, api.OK}, {[]tick.Op{push(-top), op(tick.Turn)}, top, api.OK},
		{[]tick.Op{{Kind: tick.Push, N: 2}, {Kind: tick.Turn, N: math.MaxInt}}, -2, api.OK},
		{full, -1, api.OK}, {append(full[:64:64], op(tick.Turn)), 0, api.ErrSize}, {make([]tick.Op, 65), 0, api.ErrSize}, {make([]tick.Op, 64), 0, api.ErrArg},
		{nil, 0, api.ErrArg}, {[]tick.Op{}, 0, api.ErrArg}, {[]tick.Op{push(1), push(2)}, 0, api.ErrArg},
		{[]tick.Op{op(tick.Turn)}, 0, api.ErrArg}, {[]tick.Op{push(1), op(tick.Plus)}, 0, api.ErrArg}, {[]tick.Op{push(1), op(tick.Least)}, 0, api.ErrArg},
		{[]tick.Op{op(tick.Most)}, 0, api.ErrArg}, {[]tick.Op{op(0)}, 0, api.ErrArg}, {[]tick.Op{push(1), op(8)}, 0, api.ErrArg}, {[]tick.Op{push(1), op(-1)}, 0, api.ErrArg},
		{[]tick.Op{push(top + 1)}, 0, api.ErrOver}, {[]tick.Op{push(-top - 1), op(tick.Turn)}, 0, api.ErrOver},
		{[]tick.Op{push(top), push(1), op(tick.Plus)}, 0, api.ErrOver}, {[]tick.Op{push(-top), push(1), op(tick.Minus)}, 0, api.ErrOver},
		{[]tick.Op{push(top), push(2), op(tick.Times), op(0)}, 0, api.ErrOver}, {[]tick.Op{op(0), push(top + 1)}, 0, api.ErrArg},
		{[]tick.Op{push(3), push(1), push(2), op(8)}, 0, api.ErrArg}, {[]tick.Op{push(3), push(1), push(2), op(0)}, 0, api.ErrArg}, {[]tick.Op{push(math.MinInt)}, 0, api.ErrOver}, {[]tick.Op{push(1), push(2), push(top + 1)}, 0, api.ErrOver},
	} {
		if n, e := tick.Eval(x.l); n != x.n || e != x.e {
			t.Errorf("%d: Eval = %d, %d; want %d, %d", i, n, e, x.n, x.e)
		}
	}
}

func TestConstants(t *testing.T) { // 1.1, 1.2
	for i, kind := range []int{tick.Push, tick.Plus, tick.Minus, tick.Times, tick.Least, tick.Most, tick.Turn} {
		if kind != i+1 {
			t.Error(i, kind)
		}
	}
	if tick.Ratio != 4096 || tick.MaxOps != 64 {
		t.Error(tick.Ratio, tick.MaxOps)
	}
}

func TestEvalLeavesItsArgument(t *testing.T) { // 1.2 with R4, R5
	l := []tick.Op{push(3), push(4), op(tick.Times)}
	for range 2 {
		if n, e := tick.Eval(l); n != 12 || e != api.OK {
			t.Error(n, e)
		}
	}
	if l[0] != push(3) || l[1] != push(4) || l[2] != op(tick.Times) {
		t.Error(l)
	}
}

func TestResultsAreExactTimes(t *testing.T) { // 1.3
	r := rand.New(rand.NewSource(1))
	for range 20000 {
		a, b := r.Intn(4*top)-2*top, r.Intn(4*top)-2*top
		for _, f := range []func(a, b int) (int, api.Errno){tick.Add, tick.Sub, tick.Mul} {
			if n, e := f(a, b); n < -top || n > top || e != api.OK && (n != 0 || e != api.ErrOver) {
				t.Fatal(a, b, n, e)
			}
		}
		if s, e := tick.Add(a, b); e == api.OK {
			if n, e := tick.Sub(s, b); n != a || e != api.OK {
				t.Fatal(a, b, s, n, e)
			}
		}
	}
}
