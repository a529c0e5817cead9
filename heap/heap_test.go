package heap_test

import (
	"math"
	"math/rand"
	"slices"
	"testing"

	"turnout/heap"
)

func pushed(l ...int) *heap.Queue[int] {
	q := heap.New[int]()
	for _, x := range l {
		q.Push(x)
	}
	return q
}

func TestExample(t *testing.T) { // 13.1
	q := pushed(3, 1, 2)
	for _, want := range []int{1, 2, 3} {
		if x, ok := q.Peek(); x != want || !ok {
			t.Error(x, ok)
		}
		if x, ok := q.Pop(); x != want || !ok {
			t.Error(x, ok)
		}
	}
	if x, ok := q.Peek(); x != 0 || ok || q.Len() != 0 {
		t.Error(x, ok)
	}
	if x, ok := q.Pop(); x != 0 || ok || q.Len() != 0 {
		t.Error(x, ok)
	}
}

func TestDrain(t *testing.T) { // 13.1
	q := pushed(5, 3, 5, 1, 9, 3)
	if l := q.Drain(0); len(l) != 0 || q.Len() != 6 {
		t.Error(l)
	}
	if l := q.Drain(5); !slices.Equal(l, []int{1, 3, 3, 5, 5}) || q.Len() != 1 {
		t.Error(l)
	}
	if l := q.Drain(math.MaxInt); !slices.Equal(l, []int{9}) || q.Len() != 0 {
		t.Error(l)
	}
	if l := q.Drain(1); len(l) != 0 {
		t.Error(l)
	}
}

func TestDrop(t *testing.T) { // 13.1
	q := pushed(5, 3, 5)
	if q.Drop(4) || !q.Drop(5) || q.Len() != 2 || !q.Drop(5) || q.Drop(5) || !q.Drop(3) || q.Drop(3) || q.Len() != 0 {
		t.Error("Drop")
	}
}

func TestOtherTypes(t *testing.T) { // 13.1
	q := heap.New[string]()
	for _, s := range []string{"b", "", "ab", "a"} {
		q.Push(s)
	}
	if l := q.Drain("b"); !slices.Equal(l, []string{"", "a", "ab", "b"}) {
		t.Error(l)
	}
	f := heap.New[float64]()
	for _, x := range []float64{1, math.NaN(), math.Inf(-1), 0.5} {
		f.Push(x)
	}
	if x, ok := f.Pop(); !math.IsNaN(x) || !ok || f.Len() != 3 {
		t.Error(x)
	}
	if l := f.Drain(1); !slices.Equal(l, []float64{math.Inf(-1), 0.5, 1}) {
		t.Error(l)
	}
}

func TestNil(t *testing.T) { // 13.1
	var q *heap.Queue[int]
	q.Push(1)
	x, ok := q.Peek()
	y, ok2 := q.Pop()
	if q.Len() != 0 || x != 0 || ok || y != 0 || ok2 || len(q.Drain(9)) != 0 || q.Drop(1) || q.Drop(0) {
		t.Error("nil queue")
	}
}

func TestAgainstSortedList(t *testing.T) { // 13.1, 13.2
	r := rand.New(rand.NewSource(21))
	for range 300 {
		q := heap.New[int]()
		var l []int
		for range 100 {
			x := r.Intn(20) - 10
			at, found := slices.BinarySearch(l, x)
			switch r.Intn(8) {
			case 0, 1, 2, 3:
				q.Push(x)
				l = slices.Insert(l, at, x)
			case 4:
				got, ok := q.Pop()
				if ok != (len(l) > 0) || ok && got != l[0] || !ok && got != 0 {
					t.Fatal(got, ok, l)
				}
				if ok {
					l = l[1:]
				}
			case 5, 6:
				if q.Drop(x) != found {
					t.Fatal(x, l)
				}
				if found {
					l = slices.Delete(l, at, at+1)
				}
			default:
				n := 0
				for n < len(l) && l[n] <= x-8 {
					n++
				}
				if got := q.Drain(x - 8); !slices.Equal(got, l[:n]) {
					t.Fatal(got, l[:n])
				}
				l = l[n:]
			}
			got, ok := q.Peek()
			if q.Len() != len(l) || ok != (len(l) > 0) || ok && got != l[0] {
				t.Fatal(got, ok, l)
			}
		}
		var rest []int
		for x, ok := q.Pop(); ok; x, ok = q.Pop() {
			rest = append(rest, x)
		}
		if !slices.Equal(rest, l) {
			t.Fatal(rest, l)
		}
	}
}
