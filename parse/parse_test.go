package parse_test

import (
	"math/rand"
	"strings"
	"testing"

	"turnout/api"
	"turnout/lex"
	"turnout/parse"
	"turnout/policy"
	"turnout/pred"
)

var (
	yes = pred.Pred{Kind: pred.True}
	no  = pred.Pred{Kind: pred.False}
)

func is(f, v int) pred.Pred { return pred.Pred{Kind: pred.Is, F: f, V: v} }

func not(p pred.Pred) pred.Pred { return pred.Pred{Kind: pred.Not, L: []pred.Pred{p}} }

func and(l ...pred.Pred) pred.Pred { return pred.Pred{Kind: pred.And, L: l} }

func or(l ...pred.Pred) pred.Pred { return pred.Pred{Kind: pred.Or, L: l} }

func filter(p pred.Pred) policy.Pol { return policy.Pol{Kind: policy.Filter, P: p} }

func set(f, v int) policy.Pol { return policy.Pol{Kind: policy.Set, F: f, V: v} }

func seq(l ...policy.Pol) policy.Pol { return policy.Pol{Kind: policy.Seq, L: l} }

func union(l ...policy.Pol) policy.Pol { return policy.Pol{Kind: policy.Union, L: l} }

func cond(p pred.Pred, a, b policy.Pol) policy.Pol {
	return policy.Pol{Kind: policy.If, P: p, L: []policy.Pol{a, b}}
}

func TestPolicies(t *testing.T) { // 29.1
	for _, x := range []struct {
		s    string
		want policy.Pol
	}{
		{"drop", filter(no)}, {"id", filter(yes)}, {"when dst = 3", filter(is(1, 3))}, {"src := 1", set(0, 1)}, {"dst:=2", set(1, 2)}, {"kind := 3", set(2, 3)}, {"tag := 999", set(3, 999)}, {"port := 0", set(4, 0)}, {"(drop)", filter(no)}, {"(((id)))", filter(yes)},
		{"dst := 3; port := 1 | drop", union(seq(set(1, 3), set(4, 1)), filter(no))}, {"id; id; id", seq(filter(yes), filter(yes), filter(yes))}, {"id | id | id", union(filter(yes), filter(yes), filter(yes))}, {"(id; id); id", seq(seq(filter(yes), filter(yes)), filter(yes))}, {"(id | id) | id", union(union(filter(yes), filter(yes)), filter(yes))},
		{"id; (id | drop); id", seq(filter(yes), union(filter(yes), filter(no)), filter(yes))}, {"if dst = 1 then port := 2 else drop", cond(is(1, 1), set(4, 2), filter(no))}, {"if true then id else drop; id", seq(cond(yes, filter(yes), filter(no)), filter(yes))},
		{"if true then if false then id else drop else id", cond(yes, cond(no, filter(yes), filter(no)), filter(yes))}, {"if true then (id; id) else (id | id)", cond(yes, seq(filter(yes), filter(yes)), union(filter(yes), filter(yes)))}, {"when true or false; id", seq(filter(or(yes, no)), filter(yes))},
		{"when true and false | id", union(filter(and(yes, no)), filter(yes))}, {"# comment\n id # more", filter(yes)}, {"when port = 500", filter(is(4, 500))},
	} {
		if got, at, e := parse.Parse(x.s); !policy.Same(got, x.want) || at != 0 || e != api.OK {
			t.Errorf("Parse(%q) = %v, %d, %d", x.s, got, at, e)
		}
	}
}

func TestConditions(t *testing.T) { // 29.1
	for _, x := range []struct {
		s    string
		want pred.Pred
	}{
		{"true", yes}, {"false", no}, {"src = 1", is(0, 1)}, {"dst = 2", is(1, 2)}, {"kind = 3", is(2, 3)}, {"tag = 4", is(3, 4)}, {"port = 5", is(4, 5)}, {"switch = 999", is(5, 999)}, {"not true", not(yes)}, {"not not true", not(not(yes))}, {"(true)", yes},
		{"true and false or true", or(and(yes, no), yes)}, {"true or false and true", or(yes, and(no, yes))}, {"not true and false", and(not(yes), no)}, {"not (true and false)", not(and(yes, no))}, {"(true or false) and true", and(or(yes, no), yes)}, {"true and true and true", and(yes, yes, yes)},
		{"(true and true) and true", and(and(yes, yes), yes)}, {"true or (false or true)", or(yes, or(no, yes))}, {"not dst = 1", not(is(1, 1))},
	} {
		if got, at, e := parse.Cond(x.s); !pred.Same(got, x.want) || at != 0 || e != api.OK {
			t.Errorf("Cond(%q) = %v, %d, %d", x.s, got, at, e)
		}
	}
}

func TestErrors(t *testing.T) { // 29.1
	for _, x := range []struct {
		s  string
		at int
		e  api.Errno
	}{
		{"", 0, api.ErrText}, {"  ", 2, api.ErrText}, {"drop drop", 5, api.ErrText}, {"drop ;", 6, api.ErrText}, {"drop |", 6, api.ErrText}, {"; drop", 0, api.ErrText}, {"| drop", 0, api.ErrText}, {"drop ;; drop", 6, api.ErrText}, {"drop )", 5, api.ErrText}, {"(drop", 5, api.ErrText}, {"( )", 2, api.ErrText}, {"(drop | )", 8, api.ErrText},
		{"dst", 3, api.ErrText}, {"dst = 3", 4, api.ErrText}, {"dst :=", 6, api.ErrText}, {"dst := x", 7, api.ErrText}, {"dst := (3)", 7, api.ErrText}, {"switch := 1", 0, api.ErrText}, {"foo", 0, api.ErrText}, {"foo := 1", 0, api.ErrText}, {"3", 0, api.ErrText}, {"true", 0, api.ErrText}, {":= 3", 0, api.ErrText}, {"dst 3", 4, api.ErrText},
		{"when", 4, api.ErrText}, {"when drop", 5, api.ErrText}, {"when dst := 3", 9, api.ErrText}, {"when dst = ", 11, api.ErrText}, {"when dst = dst", 11, api.ErrText}, {"when true false", 10, api.ErrText}, {"when true and", 13, api.ErrText}, {"when not", 8, api.ErrText}, {"when (true", 10, api.ErrText}, {"when (true;", 10, api.ErrText}, {"when not and true", 9, api.ErrText},
		{"if", 2, api.ErrText}, {"if true", 7, api.ErrText}, {"if true id", 8, api.ErrText}, {"if true then", 12, api.ErrText}, {"if true then id", 15, api.ErrText}, {"if true then id ; id else id", 16, api.ErrText}, {"if true then id else", 20, api.ErrText}, {"if true then id else else", 21, api.ErrText}, {"then", 0, api.ErrText}, {"else", 0, api.ErrText},
		{"id # comment\n id", 14, api.ErrText}, {"id ?", 3, api.ErrText}, {"drop drop ?", 10, api.ErrText}, {strings.Repeat("x", 4001), 0, api.ErrSize}, {strings.Repeat("(", 501), 500, api.ErrFull}, {strings.Repeat("(", 500), 500, api.ErrText}, {"dst := 1000", 7, api.ErrText}, {"Drop", 0, api.ErrText}, {"dropdrop", 0, api.ErrText},
	} {
		if got, at, e := parse.Parse(x.s); !policy.Same(got, policy.Pol{}) || at != x.at || e != x.e {
			t.Errorf("Parse(%q) = %v, %d, %d; want %d, %d", x.s, got, at, e, x.at, x.e)
		}
	}
	for _, x := range []struct {
		s  string
		at int
		e  api.Errno
	}{
		{"", 0, api.ErrText}, {"true true", 5, api.ErrText}, {"id", 0, api.ErrText}, {"true; true", 4, api.ErrText}, {"dst := 3", 4, api.ErrText}, {"or true", 0, api.ErrText}, {"true or", 7, api.ErrText}, {"(true", 5, api.ErrText}, {"true)", 4, api.ErrText}, {"not", 3, api.ErrText}, {"true | ?", 7, api.ErrText}, {strings.Repeat("(", 501), 500, api.ErrFull},
		{strings.Repeat(" ", 4001), 0, api.ErrSize}, {"switch = switch", 9, api.ErrText}, {"3 = dst", 0, api.ErrText}, {"true and and true", 9, api.ErrText},
	} {
		if got, at, e := parse.Cond(x.s); !pred.Same(got, pred.Pred{}) || at != x.at || e != x.e {
			t.Errorf("Cond(%q) = %v, %d, %d; want %d, %d", x.s, got, at, e, x.at, x.e)
		}
	}
}

func somePred(r *rand.Rand, deep int) pred.Pred {
	if deep <= 1 || r.Intn(2) == 0 {
		return []pred.Pred{yes, no, is(r.Intn(6), r.Intn(8)), is(r.Intn(6), r.Intn(8))}[r.Intn(4)]
	}
	switch r.Intn(3) {
	case 0:
		return not(somePred(r, deep-1))
	case 1:
		return and(somePred(r, deep-1), somePred(r, deep-1))
	}
	return or(somePred(r, deep-1), somePred(r, deep-1), somePred(r, deep-1))
}

func some(r *rand.Rand, deep int) policy.Pol {
	if deep <= 1 || r.Intn(3) == 0 {
		return []policy.Pol{filter(somePred(r, 4)), set(r.Intn(5), r.Intn(8))}[r.Intn(2)]
	}
	switch r.Intn(3) {
	case 0:
		return cond(somePred(r, 3), some(r, deep-1), some(r, deep-1))
	case 1:
		return seq(some(r, deep-1), some(r, deep-1))
	}
	return union(some(r, deep-1), some(r, deep-1), some(r, deep-1))
}

func TestParsedAsFormatted(t *testing.T) { // 29.2
	r := rand.New(rand.NewSource(44))
	for range 3000 {
		p := somePred(r, 5)
		if got, at, e := parse.Cond(pred.Text(p)); !pred.Same(got, p) || at != 0 || e != api.OK {
			t.Fatal(pred.Text(p), got, at, e)
		}
		x := some(r, 4)
		s := policy.Text(x)
		if len(s) > 1000 || !policy.Right(x) {
			continue
		}
		got, at, e := parse.Parse(s)
		if !policy.Same(got, x) || at != 0 || e != api.OK {
			t.Fatal(s, got, at, e)
		}
		tokens, _, _ := lex.Lex(s)
		spaced := strings.ReplaceAll(lex.Text(tokens), " ", " # comment\n\t")
		if got, _, e := parse.Parse(spaced); e != lexed(spaced) || e == api.OK && !policy.Same(got, x) {
			t.Fatal(spaced, got, e)
		}
	}
}

// lexed tells whether a text is too long.
func lexed(s string) api.Errno {
	_, _, e := lex.Lex(s)
	return e
}

func TestValidPoliciesThatAreParsedAreFormattedAlike(t *testing.T) { // 29.2
	r := rand.New(rand.NewSource(45))
	words := []string{"drop", "id", "when", "if", "then", "else", "(", ")", ";", "|", "dst", "port", ":=", "=", "1", "3", "true", "not", "and", "or"}
	valid := 0
	for range 200000 {
		var l []string
		for range 1 + r.Intn(7) {
			l = append(l, words[r.Intn(len(words))])
		}
		s := strings.Join(l, " ")
		x, _, e := parse.Parse(s)
		if e != api.OK || !policy.Right(x) {
			continue
		}
		valid++
		if y, at, e := parse.Parse(policy.Text(x)); !policy.Same(x, y) || at != 0 || e != api.OK {
			t.Fatal(s, policy.Text(x), y, at, e)
		}
	}
	if valid < 500 {
		t.Error(valid)
	}
}
