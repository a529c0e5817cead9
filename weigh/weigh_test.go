package weigh_test

import (
	"math"
	"math/rand"
	"slices"
	"testing"

	"turnout/float"
	"turnout/weigh"
)

var (
	inf     = math.Inf(1)
	negZero = math.Copysign(0, -1)
	nan     = math.NaN()
)

func same(a, b float64) bool { return math.Float64bits(a) == math.Float64bits(b) }

func TestOfAndBits(t *testing.T) { // 18.1
	w := weigh.Of([]uint64{0x3FF0000000000000, 1 << 63, 0, 0x7FF0000000000000, 0xFFF8000000000123})
	want := []float64{1, negZero, 0, inf, float.Of(0x7FF8000000000001)}
	if !slices.EqualFunc(w, want, same) {
		t.Error(w)
	}
	if b := weigh.Bits([]float64{1, negZero, inf, math.Float64frombits(0xFFFFFFFFFFFFFFFF), -2}); !slices.Equal(b, []uint64{0x3FF0000000000000, 1 << 63, 0x7FF0000000000000, 0x7FF8000000000001, 0xC000000000000000}) {
		t.Errorf("%x", b)
	}
	if len(weigh.Of(nil)) != 0 || len(weigh.Bits(nil)) != 0 {
		t.Error("nothing")
	}
}

func TestRightAndUp(t *testing.T) { // 18.1
	for i, x := range []struct {
		w     []float64
		links int
		is    bool
	}{
		{nil, 0, true}, {[]float64{0, negZero, 1, inf, math.MaxFloat64}, 5, true}, {[]float64{1}, 2, false}, {[]float64{1, 2}, 1, false}, {[]float64{1, nan}, 2, false}, {[]float64{-1e-300, 1}, 2, false}, {[]float64{1, math.Inf(-1)}, 2, false}, {nil, -1, false},
	} {
		if weigh.Right(x.w, x.links) != x.is {
			t.Errorf("%d: Right = %v", i, !x.is)
		}
	}
	w := []float64{1, inf, nan, negZero, math.MaxFloat64}
	for link, want := range map[int]bool{0: true, 1: false, 2: false, 3: true, 4: true, 5: false, -1: false, math.MaxInt: false, math.MinInt: false} {
		if weigh.Up(w, link) != want {
			t.Errorf("Up(%d) = %v", link, !want)
		}
	}
}

func TestWalk(t *testing.T) { // 18.2
	for i, x := range []struct {
		w    []float64
		way  []int
		want float64
	}{
		{[]float64{1.5, 2}, []int{0, 1}, 3.5}, {[]float64{1.5, 2}, nil, 0}, {nil, nil, 0}, {[]float64{1.5, 2}, []int{1, 1, 1}, 6}, {[]float64{negZero}, []int{0}, 0}, {[]float64{negZero}, []int{0, 0}, 0}, {[]float64{1, inf}, []int{0, 1, 0}, inf},
		{[]float64{1}, []int{1}, inf}, {[]float64{1}, []int{0, -1}, inf}, {[]float64{nan}, []int{0, 7}, inf}, {[]float64{nan}, []int{7, 0}, inf}, {[]float64{1, nan}, []int{0, 1}, float.Of(0x7FF8000000000001)}, {[]float64{math.MaxFloat64}, []int{0, 0}, inf},
		{[]float64{1, 1 << 53}, []int{0, 0, 1}, 1 << 53}, {[]float64{1, 1 << 53}, []int{1, 0, 0}, 1<<53 + 2}, {[]float64{1, 1 << 53}, []int{0, 1, 0}, 1 << 53},
	} {
		if c := weigh.Walk(x.w, x.way); !same(c, x.want) {
			t.Errorf("%d: Walk = %v; want %v", i, c, x.want)
		}
	}
}

func TestLeast(t *testing.T) { // 18.2
	w := []float64{3, 1, 2, inf, negZero}
	for i, x := range []struct {
		ways [][]int
		want int
	}{
		{nil, -1}, {[][]int{{0}}, 0}, {[][]int{{0}, {1}, {2}}, 1}, {[][]int{{0}, {1, 2}, {2, 1}}, 0}, {[][]int{{3}, {3}}, 0}, {[][]int{{3}, {9}, {0}}, 2}, {[][]int{{1}, {}, {4}}, 1}, {[][]int{{4}, {}}, 0}, {[][]int{{9}}, 0},
	} {
		if got := weigh.Least(w, x.ways); got != x.want {
			t.Errorf("%d: Least = %d; want %d", i, got, x.want)
		}
	}
	if got := weigh.Least([]float64{nan, inf}, [][]int{{0}, {1}, {0}}); got != 1 {
		t.Error("NaN is last", got)
	}
}

func TestPathsDoNotCostLessThanTheirEnds(t *testing.T) { // 18.3
	r := rand.New(rand.NewSource(29))
	some := []float64{0, negZero, 1, 0.1, 1e-300, 1e300, math.MaxFloat64, inf, 3}
	for range 2000 {
		var w []float64
		for range 5 {
			w = append(w, some[r.Intn(len(some))])
		}
		var way []int
		down := false
		for range r.Intn(8) {
			way = append(way, r.Intn(5))
			down = down || !weigh.Up(w, way[len(way)-1])
		}
		cost := weigh.Walk(w, way)
		if down && cost != inf {
			t.Fatal(w, way, cost)
		}
		for i := range way {
			if end := weigh.Walk(w, way[i:]); cost < end || !float.Cost(end) {
				t.Fatal(w, way, i, cost, end)
			}
		}
	}
}
