package lex_test

import (
	"math/rand"
	"slices"
	"strings"
	"testing"

	"turnout/api"
	"turnout/lex"
)

func word(s string, at int) lex.Token { return lex.Token{Kind: lex.Word, S: s, At: at} }

func sign(s string, at int) lex.Token { return lex.Token{Kind: lex.Sign, S: s, At: at} }

func number(n, at int) lex.Token { return lex.Token{Kind: lex.Number, N: n, At: at} }

func end(at int) lex.Token { return lex.Token{Kind: lex.End, At: at} }

func TestTokens(t *testing.T) { // 28.1
	for _, x := range []struct {
		s    string
		want []lex.Token
	}{
		{"", []lex.Token{end(0)}}, {"dst:=3", []lex.Token{word("dst", 0), sign(":=", 3), number(3, 5), end(6)}}, {" \t\n ", []lex.Token{end(4)}}, {"# only a comment", []lex.Token{end(16)}}, {"#", []lex.Token{end(1)}}, {"#\n", []lex.Token{end(2)}},
		{"a#b(1\nc", []lex.Token{word("a", 0), word("c", 6), end(7)}}, {"();|=:=", []lex.Token{sign("(", 0), sign(")", 1), sign(";", 2), sign("|", 3), sign("=", 4), sign(":=", 5), end(7)}}, {"==:==", []lex.Token{sign("=", 0), sign("=", 1), sign(":=", 2), sign("=", 4), end(5)}},
		{"ab12cd", []lex.Token{word("ab", 0), number(12, 2), word("cd", 4), end(6)}}, {"0 999 10", []lex.Token{number(0, 0), number(999, 2), number(10, 6), end(8)}}, {"azq  x ", []lex.Token{word("azq", 0), word("x", 5), end(7)}}, {"# a # b\n##\nx#", []lex.Token{word("x", 11), end(13)}},
		{"1(2", []lex.Token{number(1, 0), sign("(", 1), number(2, 2), end(3)}}, {"#\x80\xff\nz", []lex.Token{word("z", 4), end(5)}},
	} {
		if got, at, e := lex.Lex(x.s); !slices.Equal(got, x.want) || at != 0 || e != api.OK {
			t.Errorf("Lex(%q) = %v, %d, %d; want %v", x.s, got, at, e, x.want)
		}
	}
}

func TestErrors(t *testing.T) { // 28.1
	for _, x := range []struct {
		s  string
		at int
		e  api.Errno
	}{
		{"a b C", 4, api.ErrText}, {"A", 0, api.ErrText}, {"a :", 2, api.ErrText}, {"a : =", 2, api.ErrText}, {":", 0, api.ErrText}, {"a\r\n", 1, api.ErrText}, {"a & b", 2, api.ErrText}, {"é", 0, api.ErrText}, {"a\x00", 1, api.ErrText}, {"_", 0, api.ErrText}, {"-1", 0, api.ErrText}, {"[", 0, api.ErrText}, {"{", 0, api.ErrText}, {"`", 0, api.ErrText},
		{"x 1000", 2, api.ErrText}, {"x 00", 2, api.ErrText}, {"x 01", 2, api.ErrText}, {"x 012a", 2, api.ErrText}, {"12345678901234567890", 0, api.ErrText}, {"x # y\n ?", 7, api.ErrText}, {"/", 0, api.ErrText}, {"<", 0, api.ErrText}, {">", 0, api.ErrText}, {"a,b", 1, api.ErrText},
		{strings.Repeat(" ", 4000), 0, api.OK}, {strings.Repeat(" ", 4001), 0, api.ErrSize}, {strings.Repeat("?", 4001), 0, api.ErrSize}, {strings.Repeat("a", 4000), 0, api.OK}, {strings.Repeat("(", 500), 0, api.OK}, {strings.Repeat("(", 501), 500, api.ErrFull}, {strings.Repeat("a ", 501), 1000, api.ErrFull},
		{strings.Repeat("(", 500) + " ?", 501, api.ErrText}, {strings.Repeat("(", 500) + "  00", 502, api.ErrText}, {strings.Repeat("(", 500) + " # end", 0, api.OK}, {strings.Repeat("(", 501) + "?", 500, api.ErrFull},
	} {
		got, at, e := lex.Lex(x.s)
		if at != x.at || e != x.e || (e == api.OK) != (len(got) > 0) {
			t.Errorf("Lex(%q) = %v, %d, %d; want %d, %d", x.s, got, at, e, x.at, x.e)
		}
	}
}

func TestConstants(t *testing.T) { // 28
	if lex.Word != 1 || lex.Number != 2 || lex.Sign != 3 || lex.End != 4 || lex.Most != 4000 || lex.MaxTokens != 500 {
		t.Error("constants")
	}
}

func TestText(t *testing.T) { // 28.2
	if s := lex.Text([]lex.Token{word("dst", 0), sign(":=", 3), number(30, 5), end(6), {Kind: 9, S: "x"}, {Kind: 0, N: 4}, sign("(", 0), number(0, 7)}); s != "dst := 30 ( 0" {
		t.Errorf("%q", s)
	}
	if s := lex.Text(nil); s != "" {
		t.Errorf("%q", s)
	}
}

// withoutOffsets leaves only the tokens themselves.
func withoutOffsets(l []lex.Token) []lex.Token {
	l = slices.Clone(l)
	for i := range l {
		l[i].At = 0
	}
	return l
}

func TestSpacesAndCommentsDoNotMatter(t *testing.T) { // 28.3
	r := rand.New(rand.NewSource(43))
	parts := []string{"dst", "a", "zz", "0", "7", "12", "999", "(", ")", ";", "|", "=", ":="}
	gaps := []string{" ", "\t", "\n", "  ", " # comment ( 0\n", "#\n"}
	for range 1000 {
		var plain, spaced strings.Builder
		for range r.Intn(30) {
			part := parts[r.Intn(len(parts))]
			plain.WriteString(part + " ")
			for range r.Intn(3) {
				spaced.WriteString(gaps[r.Intn(len(gaps))])
			}
			spaced.WriteString(part + gaps[r.Intn(len(gaps))])
		}
		a, _, e := lex.Lex(plain.String())
		b, _, e2 := lex.Lex(spaced.String())
		c, _, e3 := lex.Lex(lex.Text(a))
		if e != api.OK || e2 != api.OK || e3 != api.OK || !slices.Equal(withoutOffsets(a), withoutOffsets(b)) || !slices.Equal(withoutOffsets(a), withoutOffsets(c)) {
			t.Fatalf("%q, %q: %v, %v, %v", plain.String(), spaced.String(), a, b, c)
		}
		for _, token := range b[:len(b)-1] { // each token begins at its offset
			if text := lex.Text([]lex.Token{token}); !strings.HasPrefix(spaced.String()[token.At:], text) {
				t.Fatalf("%q: %v", spaced.String(), token)
			}
		}
	}
}
