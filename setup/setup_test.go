package setup_test

import (
	"math"
	"math/rand"
	"reflect"
	"slices"
	"strings"
	"testing"

	"turnout/api"
	"turnout/setup"
)

const text = `switches 2
link 0 1 1 2 3 4
link 1 -3 0 5 6 1000
host 0 7
host -1 6
weights 3ff0000000000000 7ff0000000000000
weights 0000000000000000 ffffffffffffffff
starts 5 -6
rate 1
room 2
wide 3
lead 4
margin 5
retry 6
`

func config() api.Config {
	return api.Config{
		T:       api.Topo{Switches: 2, Links: []api.Link{{A: 0, PortA: 1, B: 1, PortB: 2, Least: 3, Most: 4}, {A: 1, PortA: -3, B: 0, PortB: 5, Least: 6, Most: 1000}}, Hosts: []api.Host{{At: 0, Port: 7}, {At: -1, Port: 6}}},
		Weights: [][]uint64{{0x3ff0000000000000, 0x7ff0000000000000}, {0, math.MaxUint64}}, Starts: []int{5, -6}, Rate: 1, Room: 2, Wide: 3, Lead: 4, Margin: 5, Retry: 6,
	}
}

const small = "switches 0\nstarts\nrate 0\nroom 0\nwide 0\nlead 0\nmargin 0\nretry 0\n"

func TestText(t *testing.T) { // 40.1
	if s := setup.Text(config()); s != text {
		t.Errorf("%q", s)
	}
	if s := setup.Text(api.Config{}); s != small {
		t.Errorf("%q", s)
	}
	c := api.Config{Weights: [][]uint64{nil, {1, 0xabcdef}, {}}, Rate: math.MaxInt, Room: math.MinInt}
	if s := setup.Text(c); !strings.HasPrefix(s, "switches 0\nweights\nweights 0000000000000001 0000000000abcdef\nweights\nstarts\nrate 9223372036854775807\nroom -9223372036854775808\n") {
		t.Errorf("%q", s)
	}
}

func TestParse(t *testing.T) { // 40.1
	if c, n, e := setup.Parse(text); !setup.Same(c, config()) || n != 0 || e != api.OK {
		t.Error(c, n, e)
	}
	if c, n, e := setup.Parse(small); !setup.Same(c, api.Config{}) || n != 0 || e != api.OK {
		t.Error(c, n, e)
	}
	s := strings.Replace(text, "rate 1\n", "rate -1125899906842624\n", 1)
	if c, n, e := setup.Parse(strings.Replace(s, "room 2\n", "room 1125899906842624\n", 1)); c.Rate != -1<<50 || c.Room != 1<<50 || n != 0 || e != api.OK {
		t.Error(c, n, e)
	}
}

// fails checks that a text is not accepted, because of this line.
func fails(t *testing.T, s string, line int) {
	t.Helper()
	if c, n, e := setup.Parse(s); !reflect.DeepEqual(c, api.Config{}) || n != line || e != api.ErrText {
		t.Errorf("Parse(%q) = %v, %d, %d; want %d", s, c, n, e, line)
	}
}

func TestLinesThatAreMissing(t *testing.T) { // 40.1
	lines := strings.SplitAfter(strings.TrimSuffix(text, "\n"), "\n")
	for n := range lines {
		fails(t, strings.Join(lines[:n], ""), n+1)                                       // only further lines are missing
		fails(t, strings.Join(lines[:n], "")+strings.TrimSuffix(lines[n], "\n"), n+1)    // a line without a line feed
		fails(t, strings.Join(lines[:n], "")+"\n"+strings.Join(lines[n:], "")+"\n", n+1) // an empty line
		fails(t, strings.Join(lines[:n], "")+"foo 1\n"+strings.Join(lines[n:], ""), n+1) // a line with another word
		if n < 13 {
			fails(t, strings.Join(lines[:n], "")+"retry 1\n"+strings.Join(lines[n:], ""), n+1) // a line too early
		}
	}
	fails(t, text+"\n", 15)
	fails(t, text+"x", 15)
	fails(t, text+"retry 6\n", 15)
	fails(t, text+text, 15)
	fails(t, "", 1)
	fails(t, "\n", 1)
	// Some lines may be repeated or missing, but not in another order.
	for _, x := range []struct {
		first, second string
		line          int
	}{{"host 0 7\n", "link 0 1 1 2 3 4\n", 5}, {"weights 3ff0000000000000 7ff0000000000000\n", "host 0 7\n", 7}, {"starts 5 -6\n", "weights 3ff0000000000000\n", 9}, {"rate 1\n", "starts 1\n", 10}, {"switches 2\n", "switches 2\n", 2}, {"rate 1\n", "rate 1\n", 10}} {
		fails(t, strings.Replace(text, x.first, x.first+x.second, 1), x.line)
	}
	fails(t, strings.Replace(text, "rate 1\n", "", 1), 9)
	fails(t, strings.Replace(text, "starts 5 -6\n", "", 1), 8)
	fails(t, strings.Replace(text, "room 2\nwide 3\n", "wide 3\nroom 2\n", 1), 10)
}

func TestLinesThatDoNotFit(t *testing.T) { // 40.1
	for _, x := range []struct {
		old  string
		line int
		bad  []string
	}{
		{"switches 2\n", 1, []string{"switches\n", "switches \n", "switches 2 3\n", "switches  2\n", " switches 2\n", "switches 2 \n", "switches +2\n", "switches 02\n", "switches -0\n", "switches x\n", "switches 2\r\n", "switches\t2\n", "switches 1125899906842625\n", "switches -1125899906842625\n", "switches 99999999999999999999\n", "Switches 2\n", "switches2\n", "switches 0x2\n"}},
		{"link 0 1 1 2 3 4\n", 2, []string{"link 0 1 1 2 3\n", "link 0 1 1 2 3 4 5\n", "link\n", "link 0 1 1 2 3 04\n", "links 0 1 1 2 3 4\n"}},
		{"host 0 7\n", 4, []string{"host 0\n", "host 0 7 1\n", "host 0 a\n", "host 0 1125899906842625\n"}},
		{"weights 3ff0000000000000 7ff0000000000000\n", 6, []string{"weights 3ff000000000000 7ff0000000000000\n", "weights 3ff00000000000000 7ff0000000000000\n", "weights 3FF0000000000000 7ff0000000000000\n", "weights 3ff0000000000000 7ff000000000000g\n", "weights \n", "weights 3ff0000000000000  7ff0000000000000\n", "weights +ff0000000000000 7ff0000000000000\n", "weights 3ff0000000000000,\n", "weights 3ff_000000000000\n", "weights 1\n"}},
		{"starts 5 -6\n", 8, []string{"starts 5 -06\n", "starts \n", "starts 5  6\n", "starts 5 x\n", "starts 5 1125899906842625\n"}},
		{"retry 6\n", 14, []string{"retry\n", "retry 6 6\n", "retry 06\n", "retries 6\n"}},
	} {
		for _, bad := range x.bad {
			fails(t, strings.Replace(text, x.old, bad, 1), x.line)
		}
	}
}

func TestSame(t *testing.T) { // 40.2
	if !setup.Same(config(), config()) || !setup.Same(api.Config{}, api.Config{Weights: [][]uint64{}, Starts: []int{}, T: api.Topo{Links: []api.Link{}, Hosts: []api.Host{}}}) || !setup.Same(api.Config{Weights: [][]uint64{nil}}, api.Config{Weights: [][]uint64{{}}}) {
		t.Error("equal configurations")
	}
	for i, change := range []func(c *api.Config){
		func(c *api.Config) { c.T.Switches++ }, func(c *api.Config) { c.T.Links[1].A++ }, func(c *api.Config) { c.T.Links[1].PortA++ }, func(c *api.Config) { c.T.Links[1].B++ }, func(c *api.Config) { c.T.Links[1].PortB++ }, func(c *api.Config) { c.T.Links[1].Least++ }, func(c *api.Config) { c.T.Links[1].Most++ },
		func(c *api.Config) { c.T.Links = c.T.Links[:1] }, func(c *api.Config) { c.T.Hosts[1].At++ }, func(c *api.Config) { c.T.Hosts[1].Port++ }, func(c *api.Config) { c.T.Hosts = c.T.Hosts[:1] }, func(c *api.Config) { c.Weights[1][1]-- }, func(c *api.Config) { c.Weights[1] = c.Weights[1][:1] }, func(c *api.Config) { c.Weights = c.Weights[:1] },
		func(c *api.Config) { c.Starts[1]++ }, func(c *api.Config) { c.Starts = c.Starts[:1] }, func(c *api.Config) { c.Rate++ }, func(c *api.Config) { c.Room++ }, func(c *api.Config) { c.Wide++ }, func(c *api.Config) { c.Lead++ }, func(c *api.Config) { c.Margin++ }, func(c *api.Config) { c.Retry++ },
	} {
		c := config()
		change(&c)
		if setup.Same(c, config()) || setup.Same(config(), c) {
			t.Error(i)
		}
	}
}

func TestParsedAsWritten(t *testing.T) { // 40.3
	r := rand.New(rand.NewSource(60))
	number := func() int {
		return []int{r.Intn(10), -r.Intn(1 << 20), 1 << 50, -1 << 50, r.Intn(1<<51) - 1<<50}[r.Intn(5)]
	}
	for range 1000 {
		c := api.Config{T: api.Topo{Switches: number()}, Rate: number(), Room: number(), Wide: number(), Lead: number(), Margin: number(), Retry: number()}
		for range r.Intn(4) {
			c.T.Links = append(c.T.Links, api.Link{A: number(), PortA: number(), B: number(), PortB: number(), Least: number(), Most: number()})
		}
		for range r.Intn(4) {
			c.T.Hosts = append(c.T.Hosts, api.Host{At: number(), Port: number()})
		}
		for range r.Intn(4) {
			var bits []uint64
			for range r.Intn(4) {
				bits = append(bits, r.Uint64()>>r.Intn(64))
			}
			c.Weights = append(c.Weights, bits)
			c.Starts = append(c.Starts, number())
		}
		s := setup.Text(c)
		got, n, e := setup.Parse(s)
		if !setup.Same(got, c) || n != 0 || e != api.OK || setup.Text(got) != s || !slices.Equal(got.Starts, c.Starts) {
			t.Fatal(s, got, n, e)
		}
	}
}
