package diff_test

import (
	"math"
	"math/rand"
	"slices"
	"testing"

	"turnout/diff"
)

const wide = 1 << 30

func after(i, j, gap int) diff.After { return diff.After{I: i, J: j, Gap: gap} }

func TestRight(t *testing.T) { // 22.1
	many := make([]diff.After, 257)
	for i, x := range []struct {
		n  int
		l  []diff.After
		is bool
	}{
		{0, nil, true}, {64, []diff.After{after(63, 0, wide), after(0, 63, -wide), after(5, 5, 0)}, true}, {65, nil, false}, {-1, nil, false}, {1, many[:256], true}, {1, many, false}, {0, many[:1], false}, {3, []diff.After{after(3, 0, 1)}, false}, {3, []diff.After{after(0, 3, 1)}, false},
		{3, []diff.After{after(-1, 0, 1)}, false}, {3, []diff.After{after(0, -1, 1)}, false}, {3, []diff.After{after(0, 1, wide+1)}, false}, {3, []diff.After{after(0, 1, -wide-1)}, false}, {math.MaxInt, nil, false}, {3, []diff.After{after(0, 1, math.MinInt)}, false},
	} {
		if diff.Right(x.n, x.l) != x.is {
			t.Errorf("%d: Right = %v", i, !x.is)
		}
		if got, ok := diff.Earliest(x.n, x.l); !x.is && (len(got) != 0 || ok || len(diff.Ring(x.n, x.l)) != 0 || len(diff.Wrong(x.n, x.l, make([]int, max(min(x.n, 64), 0)))) != 0) {
			t.Errorf("%d: a result for constraints that are not valid", i)
		}
	}
}

func TestWrong(t *testing.T) { // 22.1
	l := []diff.After{after(0, 1, 5), after(1, 2, -3), after(2, 2, 1), after(2, 0, 0)}
	for _, x := range []struct{ x, want []int }{
		{[]int{0, 5, 2}, []int{2, 3}}, {[]int{0, 4, 0}, []int{0, 1, 2}}, {[]int{1, 0, 0}, []int{0, 2}}, {[]int{0, 5, 0}, []int{1, 2}}, {[]int{1 << 50, -1 << 50, 0}, []int{0, 2}},
		{[]int{0, 4}, nil}, {[]int{0, 4, 0, 0}, nil}, {nil, nil}, {[]int{1<<50 + 1, 0, 0}, nil}, {[]int{0, 0, -1<<50 - 1}, nil}, {[]int{math.MinInt, 0, 0}, nil},
	} {
		if got := diff.Wrong(3, l, x.x); !slices.Equal(got, x.want) {
			t.Errorf("Wrong(%v) = %v; want %v", x.x, got, x.want)
		}
	}
	if len(diff.Wrong(0, nil, nil)) != 0 || len(diff.Wrong(2, l[:1], []int{3, 8})) != 0 {
		t.Error("nothing is wrong")
	}
}

func TestConstants(t *testing.T) { // 22
	if diff.Most != 64 || diff.MaxAfters != 256 || diff.Wide != 1<<30 {
		t.Error("constants")
	}
}

func TestEarliest(t *testing.T) { // 22.2
	for i, x := range []struct {
		n    int
		l    []diff.After
		want []int
		ok   bool
	}{
		{3, []diff.After{after(0, 1, 5), after(1, 2, 3)}, []int{0, 5, 8}, true}, {3, []diff.After{after(1, 2, 3), after(0, 1, 5)}, []int{0, 5, 8}, true}, {0, nil, nil, true}, {2, nil, []int{0, 0}, true}, {1, []diff.After{after(0, 0, 0)}, []int{0}, true}, {1, []diff.After{after(0, 0, 1)}, nil, false},
		{2, []diff.After{after(0, 1, 5), after(1, 0, -5)}, []int{0, 5}, true}, {2, []diff.After{after(0, 1, 5), after(1, 0, -4)}, nil, false}, {2, []diff.After{after(0, 1, -5)}, []int{0, 0}, true}, {2, []diff.After{after(0, 1, wide), after(0, 1, 3)}, []int{0, wide}, true},
		{3, []diff.After{after(2, 1, 4), after(1, 0, -1), after(2, 0, 2)}, []int{3, 4, 0}, true}, {3, []diff.After{after(1, 2, 1), after(2, 1, 0)}, nil, false},
	} {
		got, ok := diff.Earliest(x.n, x.l)
		if !slices.Equal(got, x.want) || ok != x.ok || (len(diff.Ring(x.n, x.l)) == 0) != x.ok {
			t.Errorf("%d: Earliest = %v, %v; want %v, %v", i, got, ok, x.want, x.ok)
		}
	}
	var long []diff.After // the constraints in the worst order
	for i := range 63 {
		long = append(long, after(62-i, 63-i, wide))
	}
	if got, ok := diff.Earliest(64, long); !ok || got[63] != 63*wide || len(diff.Ring(64, long)) != 0 {
		t.Error(got, ok)
	}
	long = append(long, after(63, 0, 1-wide))
	if _, ok := diff.Earliest(64, long); ok {
		t.Error("a ring is solved")
	}
	checkRing(t, 64, long)
}

// checkRing checks that the constraints of the ring form a cycle that nothing satisfies.
func checkRing(t *testing.T, n int, l []diff.After) {
	t.Helper()
	ring := diff.Ring(n, l)
	if len(ring) == 0 {
		t.Fatal("no ring", n, l)
	}
	sum, seen := 0, map[int]bool{}
	for i, k := range ring {
		if k < 0 || k >= len(l) || seen[l[k].J] || l[k].J != l[ring[(i+1)%len(ring)]].I {
			t.Fatal(n, l, ring)
		}
		seen[l[k].J] = true
		sum += l[k].Gap
	}
	if sum <= 0 {
		t.Fatal(n, l, ring, sum)
	}
}

// longest are the greatest sums of gaps from any variable, or nil if there is a positive cycle.
func longest(n int, l []diff.After) []int {
	const none = -1 << 40
	d := make([][]int, n)
	for i := range d {
		d[i] = slices.Repeat([]int{none}, n)
		d[i][i] = 0
	}
	for _, a := range l {
		d[a.I][a.J] = max(d[a.I][a.J], a.Gap)
	}
	for k := range d {
		for i := range d {
			for j := range d {
				d[i][j] = max(d[i][j], d[i][k]+d[k][j])
			}
		}
	}
	x := make([]int, n)
	for i := range d {
		if d[i][i] > 0 {
			return nil
		}
		for j := range d {
			x[j] = max(x[j], d[i][j])
		}
	}
	return x
}

func TestAgainstLongestPaths(t *testing.T) { // 22.2, 22.3
	r := rand.New(rand.NewSource(33))
	solved, unsolved := 0, 0
	for range 4000 {
		n := 1 + r.Intn(8)
		var l []diff.After
		for range r.Intn(3 * n) {
			l = append(l, after(r.Intn(n), r.Intn(n), r.Intn(20)-14))
		}
		got, ok := diff.Earliest(n, l)
		want := longest(n, l)
		if ok != (want != nil) || !slices.Equal(got, want) {
			t.Fatal(n, l, got, ok, want)
		}
		if !ok {
			unsolved++
			checkRing(t, n, l)
			continue
		}
		solved++
		if w := diff.Wrong(n, l, got); len(w) != 0 || len(diff.Ring(n, l)) != 0 {
			t.Fatal(n, l, got, w)
		}
		for i := range got { // every element is as small as possible
			got[i]--
			if got[i] >= 0 && len(diff.Wrong(n, l, got)) == 0 {
				t.Fatal(n, l, got)
			}
			got[i]++
		}
	}
	if solved < 500 || unsolved < 500 {
		t.Error(solved, unsolved)
	}
}
