package journal_test

import (
	"math"
	"math/rand"
	"slices"
	"strings"
	"testing"

	"turnout/api"
	"turnout/journal"
)

func rec(kind, u, a, b int) journal.Rec { return journal.Rec{Kind: kind, U: u, A: a, B: b} }

// after is the state after records, which must be allowed.
func after(t *testing.T, l ...journal.Rec) journal.State {
	t.Helper()
	s, n, e := journal.Replay(l)
	if n != len(l) || e != api.OK {
		t.Fatal(l, s, n, e)
	}
	return s
}

var (
	begin  = rec(journal.Begin, 1, 2, 30)
	arm0   = rec(journal.Arm, 1, 0, 0)
	arm1   = rec(journal.Arm, 1, 1, 0)
	sure   = rec(journal.Sure, 1, 0, 0)
	cancel = rec(journal.Cancel, 1, 0, 0)
	commit = rec(journal.Commit, 1, 0, 0)
)

func TestStates(t *testing.T) { // 36.1
	for i, x := range []struct {
		l    []journal.Rec
		want journal.State
	}{
		{nil, journal.State{}}, {[]journal.Rec{begin}, journal.State{U: 1, Open: true, Target: 2, At: 30}}, {[]journal.Rec{begin, arm0, arm1}, journal.State{U: 1, Open: true, Target: 2, At: 30, Armed: 2}}, {[]journal.Rec{begin, arm0, sure}, journal.State{U: 1, Open: true, Target: 2, At: 30, Armed: 1, Sure: true}},
		{[]journal.Rec{begin, arm0, sure, commit}, journal.State{U: 1, Now: 2}}, {[]journal.Rec{begin, cancel}, journal.State{U: 1, Open: true, Target: 2, At: 30, Cancelled: true}}, {[]journal.Rec{begin, arm0, sure, cancel}, journal.State{U: 1, Open: true, Target: 2, At: 30, Armed: 1, Sure: true, Cancelled: true}},
		{[]journal.Rec{begin, cancel, rec(journal.Close, 1, 0, 0)}, journal.State{U: 1}}, {[]journal.Rec{begin, cancel, rec(journal.Close, 1, 5, 0)}, journal.State{U: 1, Out: 5}}, {[]journal.Rec{begin, cancel, rec(journal.Close, 1, 255, 0)}, journal.State{U: 1, Out: 255}}, {[]journal.Rec{begin, cancel, rec(journal.Close, 1, 133, 0), rec(journal.Release, 1, 7, 0)}, journal.State{U: 1, Out: 5}},
		{[]journal.Rec{begin, arm0, sure, commit, rec(journal.Begin, 2, 0, 0), cancel2(), rec(journal.Close, 2, 1, 0)}, journal.State{U: 2, Now: 2, Out: 1}}, {[]journal.Rec{begin, arm0, sure, commit, rec(journal.Begin, 2, 15, 1<<50)}, journal.State{U: 2, Now: 2, Open: true, Target: 15, At: 1 << 50}},
	} {
		if s := after(t, x.l...); s != x.want {
			t.Errorf("%d: %v; want %v", i, s, x.want)
		}
	}
}

func cancel2() journal.Rec { return rec(journal.Cancel, 2, 0, 0) }

func TestRecordsThatAreNotAllowed(t *testing.T) { // 36.1
	idle := after(t)
	staging := after(t, begin)
	armed := after(t, begin, arm0)
	waiting := after(t, begin, arm0, sure)
	undoing := after(t, begin, arm0, cancel)
	late := after(t, begin, arm0, sure, cancel)
	out := after(t, begin, cancel, rec(journal.Close, 1, 5, 0))
	done := after(t, begin, arm0, sure, commit)
	full := staging
	for i := range 8 {
		full, _ = journal.Next(full, rec(journal.Arm, 1, i, 0))
	}
	if full.Armed != 8 {
		t.Fatal(full)
	}
	for i, x := range []struct {
		s journal.State
		l []journal.Rec
	}{
		{idle, []journal.Rec{{}, rec(8, 0, 0, 0), rec(-1, 0, 0, 0), rec(journal.Begin, 0, 0, 0), rec(journal.Begin, 2, 0, 0), rec(journal.Begin, 1, 16, 0), rec(journal.Begin, 1, -1, 0), rec(journal.Begin, 1, 0, -1), rec(journal.Begin, 1, 0, 1<<50+1), rec(journal.Arm, 0, 0, 0), rec(journal.Sure, 0, 0, 0), rec(journal.Cancel, 0, 0, 0), rec(journal.Commit, 0, 0, 0), rec(journal.Close, 0, 0, 0), rec(journal.Release, 0, 0, 0)}},
		{staging, []journal.Rec{begin, rec(journal.Begin, 2, 0, 0), arm1, rec(journal.Arm, 0, 0, 0), rec(journal.Arm, 2, 0, 0), rec(journal.Arm, 1, -1, 0), sure, commit, rec(journal.Close, 1, 0, 0), rec(journal.Release, 1, 0, 0), rec(journal.Cancel, 2, 0, 0), rec(0, 1, 0, 0), rec(8, 1, 0, 0)}},
		{armed, []journal.Rec{arm0, rec(journal.Arm, 1, 2, 0), commit, rec(journal.Close, 1, 0, 0), rec(journal.Sure, 2, 0, 0), rec(journal.Sure, 0, 0, 0)}},
		{full, []journal.Rec{rec(journal.Arm, 1, 8, 0)}},
		{waiting, []journal.Rec{arm1, sure, rec(journal.Close, 1, 0, 0), rec(journal.Commit, 2, 0, 0), rec(journal.Release, 1, 0, 0), rec(journal.Begin, 2, 0, 0)}},
		{undoing, []journal.Rec{arm1, sure, cancel, commit, rec(journal.Close, 1, 256, 0), rec(journal.Close, 1, -1, 0), rec(journal.Close, 2, 0, 0), rec(journal.Begin, 2, 0, 0)}},
		{late, []journal.Rec{commit, cancel, sure, arm1}},
		{out, []journal.Rec{rec(journal.Begin, 2, 0, 0), rec(journal.Release, 1, 1, 0), rec(journal.Release, 1, 8, 0), rec(journal.Release, 1, -1, 0), rec(journal.Release, 2, 0, 0), rec(journal.Release, 1, math.MaxInt, 0), cancel, rec(journal.Close, 1, 0, 0), commit}},
		{done, []journal.Rec{rec(journal.Begin, 1, 0, 0), rec(journal.Begin, 3, 0, 0), commit, cancel, rec(journal.Close, 1, 0, 0), rec(journal.Release, 1, 0, 0)}},
	} {
		for _, r := range x.l {
			if s, e := journal.Next(x.s, r); s != x.s || e != api.ErrForm {
				t.Errorf("%d: Next(%v, %v) = %v, %d", i, x.s, r, s, e)
			}
		}
	}
	// Numbers that a record does not use are 0.
	for _, x := range []struct {
		s journal.State
		r journal.Rec
	}{{staging, arm0}, {armed, sure}, {staging, cancel}, {waiting, commit}, {undoing, rec(journal.Close, 1, 3, 0)}, {out, rec(journal.Release, 1, 0, 0)}} {
		if _, e := journal.Next(x.s, x.r); e != api.OK {
			t.Errorf("Next(%v, %v) = %d", x.s, x.r, e)
		}
		x.r.B = 1
		if s, e := journal.Next(x.s, x.r); s != x.s || e != api.ErrForm {
			t.Errorf("Next(%v, %v) = %v, %d", x.s, x.r, s, e)
		}
		x.r.B, x.r.A = 0, 1
		if s, e := journal.Next(x.s, x.r); (x.r.Kind == journal.Sure || x.r.Kind == journal.Cancel || x.r.Kind == journal.Commit) && (s != x.s || e != api.ErrForm) {
			t.Errorf("Next(%v, %v) = %v, %d", x.s, x.r, s, e)
		}
	}
}

func TestConstants(t *testing.T) { // 36
	for i, kind := range []int{journal.Begin, journal.Arm, journal.Sure, journal.Cancel, journal.Commit, journal.Close, journal.Release} {
		if kind != i+1 {
			t.Error(i, kind)
		}
	}
}

func TestReplay(t *testing.T) { // 36.2
	s, n, e := journal.Replay([]journal.Rec{begin, arm0, commit, sure})
	if s != after(t, begin, arm0) || n != 2 || e != api.ErrForm {
		t.Error(s, n, e)
	}
	if s, n, e := journal.Replay([]journal.Rec{arm0}); s != (journal.State{}) || n != 0 || e != api.ErrForm {
		t.Error(s, n, e)
	}
	if s, n, e := journal.Replay(nil); s != (journal.State{}) || n != 0 || e != api.OK {
		t.Error(s, n, e)
	}
}

func TestFate(t *testing.T) { // 36.2
	end := rec(journal.Close, 1, 0, 0)
	for i, x := range []struct {
		l    []journal.Rec
		want int
	}{
		{nil, 0}, {[]journal.Rec{begin}, 1}, {[]journal.Rec{begin, arm0, sure}, 1}, {[]journal.Rec{begin, cancel}, 1}, {[]journal.Rec{begin, arm0, sure, commit}, 2}, {[]journal.Rec{begin, cancel, end}, 3}, {[]journal.Rec{begin, commit, end}, 2}, {[]journal.Rec{begin, end, commit}, 2}, {[]journal.Rec{commit, end}, 0}, {[]journal.Rec{end, begin}, 3},
		{[]journal.Rec{begin, rec(journal.Commit, 2, 0, 0)}, 1}, {[]journal.Rec{rec(journal.Begin, 2, 0, 0), commit}, 0}, {[]journal.Rec{begin, rec(journal.Release, 1, 0, 0), {Kind: 9, U: 1}, {Kind: -1, U: 1}}, 1},
	} {
		if got := journal.Fate(x.l, 1); got != x.want {
			t.Errorf("%d: Fate = %d; want %d", i, got, x.want)
		}
	}
}

func TestText(t *testing.T) { // 36.3
	l := []journal.Rec{begin, arm0, sure, cancel, commit, rec(journal.Close, 1, 255, 0), rec(journal.Release, 1, 7, 0)}
	const want = "begin 1 2 30\narm 1 0 0\nsure 1 0 0\ncancel 1 0 0\ncommit 1 0 0\nclose 1 255 0\nrelease 1 7 0\n"
	if s := journal.Text(l); s != want {
		t.Errorf("%q", s)
	}
	if s := journal.Text([]journal.Rec{{}, rec(8, -1, 20, -300)}); s != "? 0 0 0\n? -1 20 -300\n" {
		t.Errorf("%q", s)
	}
	if got, n, e := journal.Parse(want); !slices.Equal(got, l) || n != 0 || e != api.OK {
		t.Error(got, n, e)
	}
	if got, n, e := journal.Parse(""); len(got) != 0 || n != 0 || e != api.OK || journal.Text(nil) != "" {
		t.Error(got, n, e)
	}
}

func TestParseErrors(t *testing.T) { // 36.3
	const good = "begin 1 2 30\n"
	for _, x := range []struct {
		s    string
		line int
	}{
		{"begin 1 2 30", 1}, {good + "arm 1 0 0", 2}, {"\n", 1}, {good + "\n" + good, 2}, {"begin 1 2\n", 1}, {"begin 1 2 3 4\n", 1}, {"begin  1 2 3\n", 1}, {" begin 1 2 3\n", 1}, {"begin 1 2 3 \n", 1}, {"? 1 2 3\n", 1}, {"Begin 1 2 3\n", 1}, {"begin -1 2 3\n", 1}, {"begin +1 2 3\n", 1}, {"begin 01 2 3\n", 1}, {"begin 1 2 -0\n", 1},
		{"begin 1 2 1125899906842625\n", 1}, {"begin 1125899906842625 2 3\n", 1}, {"begin 1 99999999999999999999 3\n", 1}, {"begin 1 2 x\n", 1}, {good + good + "armed 1 0 0\n" + "x", 3}, {"begin\t1 2 3\n", 1}, {"begin 1 2 3\r\n", 1}, {good + "x", 2}, {"begin 1 2 00\n", 1}, {"begin 1 2 0x1\n", 1}, {"x\n?\n", 1},
	} {
		if got, n, e := journal.Parse(x.s); len(got) != 0 || n != x.line || e != api.ErrText {
			t.Errorf("Parse(%q) = %v, %d, %d", x.s, got, n, e)
		}
	}
	if got, n, e := journal.Parse("close 1125899906842624 0 1125899906842624\n"); !slices.Equal(got, []journal.Rec{rec(journal.Close, 1<<50, 0, 1<<50)}) || n != 0 || e != api.OK {
		t.Error(got, n, e)
	}
}

func TestUpdatesEndOnce(t *testing.T) { // 36.4
	r := rand.New(rand.NewSource(55))
	updates := 0
	for range 300 {
		var l []journal.Rec
		s := journal.State{}
		for range 400 {
			x := rec(1+r.Intn(7), s.U+r.Intn(2), r.Intn(3), r.Intn(2)*r.Intn(50))
			if next, e := journal.Next(s, x); e == api.OK {
				l, s = append(l, x), next
			}
		}
		begun, ended := map[int]int{}, map[int]int{}
		for i, x := range l {
			switch x.Kind {
			case journal.Begin:
				begun[x.U]++
			case journal.Commit, journal.Close:
				ended[x.U]++
			}
			if _, n, e := journal.Replay(l[:i]); n != i || e != api.OK {
				t.Fatal(l, i)
			}
		}
		for u, n := range begun {
			if n != 1 || ended[u] > 1 || u < 1 || u > s.U {
				t.Fatal(l, u)
			}
		}
		if len(begun) != s.U {
			t.Fatal(l)
		}
		updates += s.U
		text := journal.Text(l)
		if got, n, e := journal.Parse(text); !slices.Equal(got, l) || n != 0 || e != api.OK || strings.Count(text, "\n") != len(l) {
			t.Fatal(l, got)
		}
	}
	if updates < 600 {
		t.Error(updates)
	}
}
