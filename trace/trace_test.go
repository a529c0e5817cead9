package trace_test

import (
	"math/rand"
	"slices"
	"testing"

	"turnout/api"
	"turnout/trace"
)

func injected(at, id, from, to int) api.Event {
	return api.Event{Kind: api.Injected, Real: at, U: id, Sw: 9, X: from, Y: to}
}

func came(at, id, sw int) api.Event {
	return api.Event{Kind: api.Came, Real: at, U: id, Sw: sw, X: 5}
}

func gone(at, id, host int) api.Event {
	return api.Event{Kind: api.Gone, Real: at, U: id, Sw: 8, X: host}
}

func dropped(at, id int) api.Event {
	return api.Event{Kind: api.Dropped, Real: at, U: id, Sw: 8, X: 2}
}

func equal(a, b []trace.Trace) bool {
	return slices.EqualFunc(a, b, func(x, y trace.Trace) bool {
		return x.Id == y.Id && x.From == y.From && x.To == y.To && x.At == y.At && slices.Equal(x.Sws, y.Sws) && x.End == y.End && x.Host == y.Host && x.Last == y.Last
	})
}

func TestOf(t *testing.T) { // 41.1
	for i, x := range []struct {
		l    []api.Event
		want []trace.Trace
	}{
		{nil, nil}, {[]api.Event{injected(5, 0, 1, 2)}, []trace.Trace{{Id: 0, From: 1, To: 2, At: 5, Last: 5}}}, {[]api.Event{injected(5, 0, 1, 0), came(5, 0, 0), came(7, 0, 2), gone(9, 0, 0)}, []trace.Trace{{Id: 0, From: 1, To: 0, At: 5, Sws: []int{0, 2}, End: api.Gone, Host: 0, Last: 9}}},
		{[]api.Event{injected(5, 0, 1, 2), came(6, 0, 3), dropped(8, 0)}, []trace.Trace{{Id: 0, From: 1, To: 2, At: 5, Sws: []int{3}, End: api.Dropped, Last: 8}}}, {[]api.Event{injected(5, 0, 1, 2), came(6, 0, 3)}, []trace.Trace{{Id: 0, From: 1, To: 2, At: 5, Sws: []int{3}, Last: 6}}},
		{[]api.Event{came(1, 0, 3), gone(2, 0, 1), dropped(3, 0), injected(5, 0, 1, 2)}, []trace.Trace{{Id: 0, From: 1, To: 2, At: 5, Last: 5}}}, {[]api.Event{injected(5, 0, 1, 2), gone(6, 0, 4), came(7, 0, 3), gone(8, 0, 5), dropped(9, 0)}, []trace.Trace{{Id: 0, From: 1, To: 2, At: 5, End: api.Gone, Host: 4, Last: 6}}},
		{[]api.Event{injected(5, 0, 1, 2), injected(6, 7, 2, 1), came(7, 7, 1), came(8, 0, 0), gone(9, 7, 1), came(10, 7, 4), gone(11, 0, 2)}, []trace.Trace{{Id: 0, From: 1, To: 2, At: 5, Sws: []int{0}, End: api.Gone, Host: 2, Last: 11}, {Id: 7, From: 2, To: 1, At: 6, Sws: []int{1}, End: api.Gone, Host: 1, Last: 9}}},
		// Several traces with the same number: the last one that has not ended counts.
		{[]api.Event{injected(1, 0, 1, 2), came(2, 0, 1), injected(3, 0, 3, 4), came(4, 0, 2), dropped(5, 0), came(6, 0, 3), gone(7, 0, 2), came(8, 0, 4)}, []trace.Trace{{Id: 0, From: 1, To: 2, At: 1, Sws: []int{1, 3}, End: api.Gone, Host: 2, Last: 7}, {Id: 0, From: 3, To: 4, At: 3, Sws: []int{2}, End: api.Dropped, Last: 5}}},
		{[]api.Event{injected(1, -5, 1, 2), gone(2, -5, 2), injected(3, -5, 3, 4), came(4, -5, 2)}, []trace.Trace{{Id: -5, From: 1, To: 2, At: 1, End: api.Gone, Host: 2, Last: 2}, {Id: -5, From: 3, To: 4, At: 3, Sws: []int{2}, Last: 4}}},
		// Other events, and another time than the last one.
		{[]api.Event{injected(9, 0, 1, 2), {Kind: api.Flipped, Real: 99, Sw: 3}, {Kind: api.Accepted, Real: 99}, {Kind: api.Crashed, Real: 99}, {Kind: 0, Real: 99}, {Kind: 14, Real: 99}, {Kind: -1, Real: 99}, came(3, 0, 3)}, []trace.Trace{{Id: 0, From: 1, To: 2, At: 9, Sws: []int{3}, Last: 3}}},
	} {
		if got := trace.Of(x.l); !equal(got, x.want) {
			t.Errorf("%d: %v; want %v", i, got, x.want)
		}
	}
}

func TestHopsAndTwice(t *testing.T) { // 41.1
	for _, x := range []struct {
		sws   []int
		hops  int
		twice bool
	}{{nil, 0, false}, {[]int{3}, 0, false}, {[]int{3, 4}, 1, false}, {[]int{3, 4, 3}, 2, true}, {[]int{3, 3}, 1, true}, {[]int{0, 1, 2, -1, 2}, 4, true}} {
		tr := trace.Trace{Sws: x.sws}
		if n, twice := trace.Hops(tr), trace.Twice(tr); n != x.hops || twice != x.twice {
			t.Error(x.sws, n, twice)
		}
	}
}

func TestText(t *testing.T) { // 41.2
	for _, x := range []struct {
		t    trace.Trace
		want string
	}{
		{trace.Trace{Id: 0, From: 1, To: 0, At: 5, Sws: []int{0, 2}, End: api.Gone, Host: 0, Last: 9}, "0: 1>0 at 5: 0 2 gone 0 at 9"}, {trace.Trace{Id: 12, From: 3, To: 4, At: 50, Sws: []int{7}, End: api.Dropped, Last: 51}, "12: 3>4 at 50: 7 dropped at 51"}, {trace.Trace{Id: 1, Last: 4}, "1: 0>0 at 0: on its way"},
		{trace.Trace{Id: -1, From: -2, To: -3, At: -4, Sws: []int{-5}, End: api.Gone, Host: -6, Last: -7}, "-1: -2>-3 at -4: -5 gone -6 at -7"}, {trace.Trace{Id: 1, Sws: []int{1, 2, 3}, Last: 4}, "1: 0>0 at 0: 1 2 3 on its way"}, {trace.Trace{End: api.Dropped}, "0: 0>0 at 0: dropped at 0"},
	} {
		if s := trace.Text(x.t); s != x.want {
			t.Errorf("%q; want %q", s, x.want)
		}
	}
}

func TestLaterEventsChangeOnlyTheirTraces(t *testing.T) { // 41.3
	r := rand.New(rand.NewSource(61))
	for range 500 {
		var l []api.Event
		count := 0
		for range 40 {
			e := api.Event{Kind: 1 + r.Intn(5), Real: r.Intn(100), U: r.Intn(4), Sw: r.Intn(3), X: r.Intn(3), Y: r.Intn(3)}
			before := trace.Of(l)
			l = append(l, e)
			after := trace.Of(l)
			if e.Kind == api.Injected {
				count++
			}
			if len(after) != count {
				t.Fatal(l, after)
			}
			changed := 0
			for i := range before {
				if !equal(before[i:i+1], after[i:i+1]) {
					changed++
					// It is the last one with this number that had not ended.
					if before[i].Id != e.U || before[i].End != 0 || slices.ContainsFunc(before[i+1:], func(x trace.Trace) bool { return x.Id == e.U && x.End == 0 }) {
						t.Fatal(l, before, after)
					}
				}
			}
			if changed > 1 || changed > 0 && (e.Kind == api.Injected || e.Kind == api.Flipped) {
				t.Fatal(l, before, after)
			}
		}
	}
}
