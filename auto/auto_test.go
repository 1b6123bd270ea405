package auto_test

import (
	"math"
	"math/rand/v2"
	"slices"
	"strings"
	"testing"

	"enthymeme/api"
	"enthymeme/auto"
)

// invalid are automata and the errors of Valid for them.
func invalid() map[string]struct {
	a    A
	want api.Errno
} {
	type row = struct {
		a    A
		want api.Errno
	}
	no := []bool{false, false}
	two := func(l ...int) [][]int { return [][]int{slices.Clone(l), slices.Clone(l)} }
	ascending := make([]int, 100000)
	for i := range ascending {
		ascending[i] = i
	}
	late := circle(256)
	late.Next[255][0] = 256
	short := circle(256)
	short.Next[255] = nil
	return map[string]row{
		"zero":                            {A{}, api.ErrArg},
		"no states":                       {A{Cuts: []int{0}}, api.ErrArg},
		"empty lists":                     {A{Cuts: []int{}, Next: [][]int{}, Accept: []bool{}}, api.ErrArg},
		"no Next":                         {A{Cuts: []int{0}, Accept: no}, api.ErrArg},
		"no Accept":                       {A{Cuts: []int{0}, Next: two(0)}, api.ErrArg},
		"Accept too short":                {A{Cuts: []int{0}, Next: two(0), Accept: no[:1]}, api.ErrArg},
		"Accept too long":                 {A{Cuts: []int{0}, Next: two(0)[:1], Accept: no}, api.ErrArg},
		"no Cuts":                         {A{Next: [][]int{{}, {}}, Accept: no}, api.ErrArg},
		"no Cuts, but classes":            {A{Next: two(0), Accept: no}, api.ErrArg},
		"Cuts begin with 1":               {A{Cuts: []int{1}, Next: two(0), Accept: no}, api.ErrArg},
		"Cuts begin with -1":              {A{Cuts: []int{-1, 0}, Next: two(0, 0), Accept: no}, api.ErrArg},
		"Cuts twice the same":             {A{Cuts: []int{0, 5, 5}, Next: two(0, 0, 0), Accept: no}, api.ErrArg},
		"Cuts 0 twice":                    {A{Cuts: []int{0, 0}, Next: two(0, 0), Accept: no}, api.ErrArg},
		"Cuts decrease":                   {A{Cuts: []int{0, 6, 5}, Next: two(0, 0, 0), Accept: no}, api.ErrArg},
		"Cuts decrease in between":        {A{Cuts: []int{0, 6, 5, 7}, Next: two(0, 0, 0, 0), Accept: no}, api.ErrArg},
		"Cuts decrease below 0":           {A{Cuts: []int{0, -1}, Next: two(0, 0), Accept: no}, api.ErrArg},
		"a cut at 256":                    {A{Cuts: []int{0, 256}, Next: two(0, 0), Accept: no}, api.ErrArg},
		"a cut at the greatest int":       {A{Cuts: []int{0, 7, math.MaxInt}, Next: two(0, 0, 0), Accept: no}, api.ErrArg},
		"257 cuts":                        {A{Cuts: ascending[:257], Next: two(make([]int, 257)...), Accept: no}, api.ErrArg},
		"very many cuts":                  {A{Cuts: ascending, Next: two(0), Accept: no}, api.ErrArg},
		"a list too short":                {A{Cuts: []int{0, 5}, Next: [][]int{{0, 0}, {0}}, Accept: no}, api.ErrArg},
		"the first list too short":        {A{Cuts: []int{0, 5}, Next: [][]int{{0}, {0, 0}}, Accept: no}, api.ErrArg},
		"a list too long":                 {A{Cuts: []int{0, 5}, Next: [][]int{{0, 0}, {0, 0, 0}}, Accept: no}, api.ErrArg},
		"a list missing":                  {A{Cuts: []int{0}, Next: [][]int{nil, {0}}, Accept: no}, api.ErrArg},
		"a state -1":                      {A{Cuts: []int{0}, Next: [][]int{{0}, {-1}}, Accept: no}, api.ErrArg},
		"a state 2 of two":                {A{Cuts: []int{0}, Next: [][]int{{2}, {0}}, Accept: no}, api.ErrArg},
		"a state 2 of two at the end":     {A{Cuts: []int{0, 9}, Next: [][]int{{0, 0}, {1, 2}}, Accept: no}, api.ErrArg},
		"the least int as a state":        {A{Cuts: []int{0}, Next: two(math.MinInt), Accept: no}, api.ErrArg},
		"the greatest int as a state":     {A{Cuts: []int{0}, Next: two(math.MaxInt), Accept: no}, api.ErrArg},
		"256 states, the last one wrong":  {late, api.ErrArg},
		"256 states, a list missing":      {short, api.ErrArg},
		"256 of Next, 255 of Accept":      {A{Cuts: []int{0}, Next: circle(256).Next, Accept: make([]bool, 255)}, api.ErrArg},
		"257 states":                      {circle(257), api.ErrLimit},
		"257 of Next alone":               {A{Next: make([][]int, 257)}, api.ErrLimit},
		"257 of Accept alone":             {A{Accept: make([]bool, 257)}, api.ErrLimit},
		"257 of Next, 1 of Accept":        {A{Cuts: []int{0}, Next: circle(257).Next, Accept: no[:1]}, api.ErrLimit},
		"257 of Accept, 2 of Next":        {A{Cuts: []int{0}, Next: two(0), Accept: make([]bool, 257)}, api.ErrLimit},
		"257 states with a cut at 256":    {A{Cuts: []int{0, 256}, Next: circle(257).Next, Accept: make([]bool, 257)}, api.ErrLimit},
		"257 states that are no numbers":  {line(nil, slices.Repeat([]int{-1}, 257)...), api.ErrLimit},
		"very many states":                {A{Cuts: []int{0}, Next: make([][]int, 1000000), Accept: make([]bool, 1000000)}, api.ErrLimit},
		"very many of Accept, one of all": {A{Cuts: []int{0}, Next: [][]int{{0}}, Accept: make([]bool, 1000000)}, api.ErrLimit},
	}
}

// P5.1
func TestValid(t *testing.T) {
	for i, a := range []A{
		nothing, everything, circle(2), circle(255), circle(256), chain(256), lastBytes(), lastBytes(7),
		{Cuts: []int{0, 1}, Next: [][]int{{0, 0}}, Accept: []bool{true}},
		{Cuts: []int{0, 255}, Next: [][]int{{0, 1}, {1, 0}}, Accept: []bool{true, false}},
		{Cuts: []int{0, 254, 255}, Next: [][]int{{1, 1, 1}, {1, 1, 1}, {0, 2, 0}}, Accept: []bool{true, true, true}},
	} {
		if e := auto.Valid(a); e != api.OK {
			t.Errorf("%d: error %d", i, e)
		}
	}
	for name, x := range invalid() {
		if e := auto.Valid(x.a); e != x.want {
			t.Errorf("%s: error %d, not %d", name, e, x.want)
		}
	}
}

// P5.1: the error comes first, and with it zero values.
func TestInvalidEverywhere(t *testing.T) {
	for name, x := range invalid() {
		for _, s := range []string{"", "a"} {
			if n, e := auto.Run(x.a, s); n != 0 || e != x.want {
				t.Errorf("%s: Run with %q is %d, %d", name, s, n, e)
			}
			if ok, e := auto.Accepts(x.a, s); ok || e != x.want {
				t.Errorf("%s: Accepts with %q is %t, %d", name, s, ok, e)
			}
		}
		for _, or := range []bool{false, true} {
			if a, e := auto.Both(x.a, everything, or); !zero(a) || e != x.want {
				t.Errorf("%s: Both, ahead, is %v, %d", name, a, e)
			}
			if a, e := auto.Both(everything, x.a, or); !zero(a) || e != x.want {
				t.Errorf("%s: Both, behind, is %v, %d", name, a, e)
			}
		}
		if a, e := auto.Complement(x.a); !zero(a) || e != x.want {
			t.Errorf("%s: Complement is %v, %d", name, a, e)
		}
		if a, e := auto.Minimal(x.a); !zero(a) || e != x.want {
			t.Errorf("%s: Minimal is %v, %d", name, a, e)
		}
		if s, ok, e := auto.Least(x.a); s != "" || ok || e != x.want {
			t.Errorf("%s: Least is %q, %t, %d", name, s, ok, e)
		}
		for _, most := range []int{0, 64, -1, 65} {
			if l, e := auto.Lengths(x.a, most); len(l) != 0 || e != x.want {
				t.Errorf("%s: Lengths up to %d is %v, %d", name, most, l, e)
			}
			for _, state := range []int{0, -1, 1000000} {
				if l, e := auto.Left(x.a, state, most); len(l) != 0 || e != x.want {
					t.Errorf("%s: Left from %d up to %d is %v, %d", name, state, most, l, e)
				}
			}
		}
	}
}

// P5.1: the error of the first one of two comes first.
func TestInvalidBoth(t *testing.T) {
	small, large := A{}, circle(257)
	for _, or := range []bool{false, true} {
		if a, e := auto.Both(small, large, or); !zero(a) || e != api.ErrArg {
			t.Errorf("%t: %v, %d", or, a, e)
		}
		if a, e := auto.Both(large, small, or); !zero(a) || e != api.ErrLimit {
			t.Errorf("%t: %v, %d", or, a, e)
		}
	}
}

// P5.3
func TestRun(t *testing.T) {
	a := A{Cuts: []int{0, 97, 98, 255}, Next: [][]int{{1, 2, 3, 4}, {0, 0, 0, 0}, {1, 1, 1, 1}, {2, 0, 3, 3}, {4, 3, 2, 1}}, Accept: []bool{false, true, false, true, true}}
	for i, x := range []struct {
		s      string
		state  int
		accept bool
	}{
		{"", 0, false}, {"\x00", 1, true}, {"`", 1, true}, {"a", 2, false}, {"b", 3, true}, {"\x7f", 3, true}, {"\x80", 3, true}, {"\xfe", 3, true}, {"\xff", 4, true},
		{"\u00ff", 3, true}, // two bytes
		{"ab", 1, true}, {"ba", 0, false}, {"bb", 3, true}, {"b\x00", 2, false}, {"b\xff", 3, true}, {"\xffa", 3, true}, {"\xff\xff", 1, true}, {"\xff\x00", 4, true}, {"\x00\x00", 0, false},
		{"aaa", 0, false}, {"bbba", 0, false}, {"bbbab", 3, true}, {"\xff\x00b", 2, false}, {"\xffba\xff", 0, false},
		{strings.Repeat("b", 100), 3, true}, {strings.Repeat("a", 3000000), 0, false}, {strings.Repeat("a", 3000001), 2, false},
	} {
		before := copied(a)
		if n, e := auto.Run(a, x.s); n != x.state || e != api.OK {
			t.Errorf("%d: Run is %d, %d", i, n, e)
		}
		if ok, e := auto.Accepts(a, x.s); ok != x.accept || e != api.OK {
			t.Errorf("%d: Accepts is %t, %d", i, ok, e)
		}
		if !same(before, a) {
			t.Fatalf("%d: the automaton has become %v", i, a)
		}
	}
}

// P5.3: each byte, for each place of a cut.
func TestRunClasses(t *testing.T) {
	last := lastBytes(0, 100, 255)
	for c := range 256 {
		s := string([]byte{byte(c)})
		for _, text := range []string{s, "x" + s, "\xff\x00" + s} {
			if n, e := auto.Run(last, text); n != c || e != api.OK {
				t.Fatalf("%q leads to %d, %d", text, n, e)
			}
			if ok, e := auto.Accepts(last, text); ok != (c == 0 || c == 100 || c == 255) || e != api.OK {
				t.Fatalf("%q: %t, %d", text, ok, e)
			}
		}
		for cut := 1; cut < 256; cut++ {
			want := 0
			if c >= cut {
				want = 1
			}
			a := A{Cuts: []int{0, cut}, Next: [][]int{{0, 1}, {0, 0}}, Accept: []bool{false, true}}
			if n, e := auto.Run(a, s); n != want || e != api.OK {
				t.Fatalf("%q leads to %d, %d, with a cut at %d", s, n, e, cut)
			}
		}
	}
}

// P5.3, against the chapter's words.
func TestRunAtRandom(t *testing.T) {
	r := rand.New(rand.NewPCG(5, 3))
	for range 3000 {
		a := random(r, 20, 8)
		s := randomString(r, 100)
		n, e := auto.Run(a, s)
		if e != api.OK || n != end(a, 0, s) {
			t.Fatalf("%v with %q: %d, %d", a, s, n, e)
		}
		if ok, e := auto.Accepts(a, s); e != api.OK || ok != a.Accept[n] {
			t.Fatalf("%v with %q: %t, %d", a, s, ok, e)
		}
	}
}
