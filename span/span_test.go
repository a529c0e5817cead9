package span_test

import (
	"math"
	"testing"

	"turnout/span"
)

const far = span.Far

var none = span.Span{Lo: 1, Hi: 0}

// small are all intervals over a few numbers, empty ones too.
func small() []span.Span {
	var l []span.Span
	for lo := -4; lo <= 4; lo++ {
		for hi := -4; hi <= 4; hi++ {
			l = append(l, span.Span{Lo: lo, Hi: hi})
		}
	}
	return l
}

func holds(s span.Span, x int) bool { return s.Lo <= x && x <= s.Hi }

// ofSet is the clean interval of the numbers for which in holds.
func ofSet(in func(x int) bool) span.Span {
	s := none
	for x := -20; x <= 20; x++ {
		if in(x) {
			if s == none {
				s.Lo = x
			}
			s.Hi = x
		}
	}
	return s
}

func TestClean(t *testing.T) { // 2.1
	for _, x := range []struct{ s, want span.Span }{
		{span.Span{Lo: 3, Hi: 7}, span.Span{Lo: 3, Hi: 7}}, {span.Span{Lo: 3, Hi: 3}, span.Span{Lo: 3, Hi: 3}}, {span.Span{Lo: 3, Hi: 2}, none}, {span.Span{}, span.Span{}},
		{span.Span{Lo: math.MinInt, Hi: math.MaxInt}, span.Span{Lo: -far, Hi: far}}, {span.Span{Lo: math.MaxInt, Hi: math.MinInt}, none}, {span.Span{Lo: far - 1, Hi: far + 1}, span.Span{Lo: far - 1, Hi: far}},
		{span.Span{Lo: -far - 1, Hi: -far}, span.Span{Lo: -far, Hi: -far}}, {span.Span{Lo: far, Hi: far}, span.Span{Lo: far, Hi: far}}, {span.Span{Lo: far + 1, Hi: far + 2}, span.Span{Lo: far, Hi: far}},
		{span.Span{Lo: -100, Hi: -200}, none}, {span.Span{Lo: far, Hi: far - 1}, none},
	} {
		if got := span.Clean(x.s); got != x.want {
			t.Errorf("Clean(%v) = %v; want %v", x.s, got, x.want)
		}
		if got := span.Empty(x.s); got != (x.want == none) {
			t.Errorf("Empty(%v) = %v", x.s, got)
		}
	}
	if span.Nothing() != none || far != 1<<52 {
		t.Error(span.Nothing(), far)
	}
}

func TestOf(t *testing.T) { // 2.1
	for _, x := range []struct {
		a, b int
		want span.Span
	}{
		{1, 5, span.Span{Lo: 1, Hi: 5}}, {5, 1, span.Span{Lo: 1, Hi: 5}}, {-3, -3, span.Span{Lo: -3, Hi: -3}}, {math.MaxInt, math.MinInt, span.Span{Lo: -far, Hi: far}},
		{far + 9, far + 3, span.Span{Lo: far, Hi: far}}, {0, far + 1, span.Span{Lo: 0, Hi: far}}, {-far - 1, 0, span.Span{Lo: -far, Hi: 0}},
	} {
		if got := span.Of(x.a, x.b); got != x.want {
			t.Errorf("Of(%d, %d) = %v; want %v", x.a, x.b, got, x.want)
		}
	}
}

func TestElements(t *testing.T) { // 2.1
	for _, a := range small() {
		n := 0
		for x := -6; x <= 6; x++ {
			if holds(a, x) {
				n++
			}
			if span.Has(a, x) != holds(a, x) {
				t.Errorf("Has(%v, %d) = %v", a, x, span.Has(a, x))
			}
		}
		if span.Size(a) != n || span.Empty(a) != (n == 0) {
			t.Errorf("Size(%v) = %d, Empty %v; want %d", a, span.Size(a), span.Empty(a), n)
		}
		for _, b := range small() {
			within := true
			for x := -4; x <= 4; x++ {
				within = within && (!holds(a, x) || holds(b, x))
			}
			if span.Within(a, b) != within {
				t.Errorf("Within(%v, %v) = %v", a, b, !within)
			}
		}
	}
	all := span.Span{Lo: math.MinInt, Hi: math.MaxInt}
	if span.Size(all) != 2*far+1 || !span.Has(all, math.MaxInt) || !span.Has(all, math.MinInt) || span.Size(span.Span{Lo: far + 3, Hi: far + 9}) != 1 {
		t.Error("numbers beyond Far count as Far")
	}
	if !span.Has(span.Span{Lo: far, Hi: far}, far+5) || span.Has(span.Span{Lo: 0, Hi: far - 1}, far+5) || !span.Within(span.Span{Lo: far + 1, Hi: far + 2}, span.Span{Lo: far, Hi: far}) {
		t.Error("numbers beyond Far count as Far")
	}
	if !span.Within(none, none) || !span.Within(none, span.Of(7, 8)) || span.Within(span.Of(7, 8), none) || span.Has(none, 1) || span.Has(none, 0) {
		t.Error("the empty interval")
	}
}

func TestMeetAndHull(t *testing.T) { // 2.2, 2.3
	for _, a := range small() {
		for _, b := range small() {
			meet := ofSet(func(x int) bool { return holds(a, x) && holds(b, x) })
			if got := span.Meet(a, b); got != meet {
				t.Errorf("Meet(%v, %v) = %v; want %v", a, b, got, meet)
			}
			for x := -5; x <= 5; x++ {
				if span.Has(span.Meet(a, b), x) != (span.Has(a, x) && span.Has(b, x)) {
					t.Error(a, b, x)
				}
			}
			union := ofSet(func(x int) bool { return holds(a, x) || holds(b, x) })
			if got := span.Hull(a, b); got != union {
				t.Errorf("Hull(%v, %v) = %v; want %v", a, b, got, union)
			}
		}
	}
	all := span.Span{Lo: math.MinInt, Hi: math.MaxInt}
	if span.Meet(all, all) != (span.Span{Lo: -far, Hi: far}) || span.Hull(all, none) != (span.Span{Lo: -far, Hi: far}) || span.Hull(span.Span{Lo: 9, Hi: 3}, span.Span{Lo: 5, Hi: far + 1}) != (span.Span{Lo: 5, Hi: far}) {
		t.Error("limits")
	}
	if got := span.Meet(span.Of(1, 5), span.Of(4, 9)); got != (span.Span{Lo: 4, Hi: 5}) || span.Mid(got) != 4 || span.Half(got) != 1 {
		t.Error(got)
	}
}

func TestShiftAndWiden(t *testing.T) { // 2.2
	for _, a := range small() {
		for by := -6; by <= 6; by++ {
			shifted := ofSet(func(x int) bool { return holds(a, x-by) })
			if got := span.Shift(a, by); got != shifted {
				t.Errorf("Shift(%v, %d) = %v; want %v", a, by, got, shifted)
			}
			wide := max(by, 0)
			widened := none
			if !span.Empty(a) {
				widened = span.Span{Lo: a.Lo - wide, Hi: a.Hi + wide}
			}
			if got := span.Widen(a, by); got != widened {
				t.Errorf("Widen(%v, %d) = %v; want %v", a, by, got, widened)
			}
		}
	}
	for _, x := range []struct{ got, want span.Span }{
		{span.Shift(span.Of(0, far), 3), span.Span{Lo: 3, Hi: far}}, {span.Shift(span.Of(-far, 0), -3), span.Span{Lo: -far, Hi: -3}}, {span.Shift(span.Of(1, 2), math.MaxInt), span.Span{Lo: far, Hi: far}},
		{span.Shift(span.Of(1, 2), math.MinInt), span.Span{Lo: 1 - far, Hi: 2 - far}}, {span.Shift(span.Span{Lo: 5, Hi: 4}, far), none}, {span.Shift(none, math.MaxInt), none},
		{span.Widen(span.Of(1, 2), math.MaxInt), span.Span{Lo: 1 - far, Hi: far}}, {span.Widen(span.Of(1, 2), math.MinInt), span.Span{Lo: 1, Hi: 2}}, {span.Widen(span.Span{Lo: 9, Hi: 5}, 100), none}, {span.Widen(none, math.MaxInt), none},
		{span.Widen(span.Of(-far, far), 1), span.Span{Lo: -far, Hi: far}}, {span.Shift(span.Span{Lo: math.MinInt, Hi: 0}, 1), span.Span{Lo: 1 - far, Hi: 1}},
	} {
		if x.got != x.want {
			t.Errorf("%v; want %v", x.got, x.want)
		}
	}
}

func TestMidAndHalf(t *testing.T) { // 2.2, 2.3
	for _, x := range []struct {
		s         span.Span
		mid, half int
	}{
		{span.Of(1, 1), 1, 0}, {span.Of(1, 2), 1, 1}, {span.Of(1, 3), 2, 1}, {span.Of(-2, -1), -2, 1}, {span.Of(-1, 0), -1, 1}, {span.Of(-3, -1), -2, 1}, {span.Of(-3, 4), 0, 4},
		{none, 0, 0}, {span.Span{Lo: 90, Hi: 80}, 0, 0}, {span.Of(-far, far), 0, far}, {span.Span{Lo: math.MinInt, Hi: math.MaxInt}, 0, far}, {span.Of(far-1, far), far - 1, 1}, {span.Of(-far, 1-far), -far, 1},
		{span.Span{Lo: far + 7, Hi: far + 9}, far, 0},
	} {
		if m, h := span.Mid(x.s), span.Half(x.s); m != x.mid || h != x.half {
			t.Errorf("%v: Mid %d, Half %d; want %d, %d", x.s, m, h, x.mid, x.half)
		}
	}
	for _, s := range small() {
		for x := s.Lo; x <= s.Hi; x++ {
			if d := x - span.Mid(s); d > span.Half(s) || -d > span.Half(s) {
				t.Error(s, x)
			}
		}
	}
}
