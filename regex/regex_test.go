package regex_test

import (
	"math"
	"math/rand/v2"
	"strings"
	"testing"

	"enthymeme/api"
	"enthymeme/regex"
)

// invalid are expressions and the errors of Valid for them.
func invalid() map[string]struct {
	r    regex.Regex
	want api.Errno
} {
	type R = regex.Regex
	type row = struct {
		r    R
		want api.Errno
	}
	itself := alt(none)
	itself.Kids[0] = itself
	long := star(none)
	long.Kids[0] = cat(a, long)
	return map[string]row{
		"Kind -1":                      {R{Kind: -1}, api.ErrArg},
		"Kind 8":                       {R{Kind: 8}, api.ErrArg},
		"the least Kind":               {R{Kind: math.MinInt}, api.ErrArg},
		"the greatest Kind":            {R{Kind: math.MaxInt}, api.ErrArg},
		"Kind 8 with Kids":             {R{Kind: 8, Kids: []R{a}}, api.ErrArg},
		"None with Lo":                 {R{Kind: regex.None, Lo: 1}, api.ErrArg},
		"None with Hi":                 {R{Kind: regex.None, Hi: 1}, api.ErrArg},
		"Empty with both":              {R{Kind: regex.Empty, Lo: 1, Hi: 2}, api.ErrArg},
		"Cat with Hi":                  {R{Kind: regex.Cat, Hi: 255}, api.ErrArg},
		"Alt with Lo and Hi":           {R{Kind: regex.Alt, Lo: 7, Hi: 7}, api.ErrArg},
		"All with Hi":                  {R{Kind: regex.All, Hi: 1, Kids: []R{a}}, api.ErrArg},
		"Not with Hi":                  {R{Kind: regex.Not, Hi: 1, Kids: []R{a}}, api.ErrArg},
		"Star with Lo":                 {R{Kind: regex.Star, Lo: 1, Hi: 1, Kids: []R{a}}, api.ErrArg},
		"Range in the wrong order":     {span(98, 97), api.ErrArg},
		"Range with Lo alone":          {R{Kind: regex.Range, Lo: 1}, api.ErrArg},
		"None with a Kid":              {R{Kind: regex.None, Kids: []R{a}}, api.ErrArg},
		"Empty with a Kid":             {R{Kind: regex.Empty, Kids: []R{a}}, api.ErrArg},
		"Range with a Kid":             {R{Kind: regex.Range, Kids: []R{a}}, api.ErrArg},
		"Not without a Kid":            {R{Kind: regex.Not}, api.ErrArg},
		"Not with two":                 {R{Kind: regex.Not, Kids: []R{a, b}}, api.ErrArg},
		"Star without a Kid":           {R{Kind: regex.Star}, api.ErrArg},
		"Star with two":                {R{Kind: regex.Star, Kids: []R{a, b}}, api.ErrArg},
		"an invalid Kid of Cat":        {cat(a, R{Kind: 8}), api.ErrArg},
		"an invalid Kid of Alt":        {alt(R{Kind: -1}, b), api.ErrArg},
		"an invalid Kid of All":        {all(a, span(2, 1), b), api.ErrArg},
		"an invalid Kid of Not":        {not(R{Kind: regex.Not}), api.ErrArg},
		"an invalid Kid of Star":       {star(star(R{Kind: regex.Empty, Hi: 3})), api.ErrArg},
		"an invalid node far below":    {nested(62, cat(span(1, 0)), not), api.ErrArg},
		"64 nodes, below a Range":      {R{Kind: regex.Range, Kids: times(63, a)}, api.ErrArg},
		"65 nodes in a list":           {cat(times(64, a)...), api.ErrLimit},
		"65 nodes in a chain":          {nested(64, a, not), api.ErrLimit},
		"65 nodes in two lists":        {alt(cat(times(31, a)...), all(times(31, a)...)), api.ErrLimit},
		"65 nodes, below a Range":      {R{Kind: regex.Range, Kids: times(64, a)}, api.ErrLimit},
		"65 nodes, the last one wrong": {cat(append(times(63, a), R{Kind: 9})...), api.ErrLimit},
		"a wrong root of 65 nodes":     {R{Kind: 9, Lo: 3, Kids: times(64, a)}, api.ErrLimit},
		"65 nodes below a Star":        {R{Kind: regex.Star, Kids: times(64, a)}, api.ErrLimit},
		"very many nodes":              {cat(times(100000, a)...), api.ErrLimit},
		"a very long chain":            {nested(60000, a, star), api.ErrLimit},
		"2^60 nodes in shared lists":   {nested(60, a, func(r R) R { return alt(r, r) }), api.ErrLimit},
		"contains itself":              {itself, api.ErrLimit},
		"contains itself further down": {long, api.ErrLimit},
	}
}

// P4.1
func TestValid(t *testing.T) {
	type R = regex.Regex
	for i, r := range []R{
		none, empty, a, span(0, 0), span(0, 255), span(255, 255), span(97, 98),
		cat(), alt(), all(), cat(a), alt(a), all(a), cat(a, b, c), alt(none, empty, a, cat(), not(a)), not(a), star(a),
		{Kind: regex.None, Kids: []R{}}, {Kind: regex.Empty, Kids: []R{}}, {Kind: regex.Range, Kids: []R{}},
		cat(times(63, a)...), nested(63, a, not), nested(63, none, star), all(cat(times(31, a)...), alt(times(30, a)...)),
	} {
		if e := regex.Valid(r); e != api.OK {
			t.Errorf("%d: %s: error %d", i, show(r), e)
		}
	}
	for name, x := range invalid() {
		if e := regex.Valid(x.r); e != x.want {
			t.Errorf("%s: error %d, not %d", name, e, x.want)
		}
	}
}

// P4.1: the error comes first, and with it zero values.
func TestInvalidEverywhere(t *testing.T) {
	for name, x := range invalid() {
		if r, e := regex.Normal(x.r); e != x.want || !zero(r) {
			t.Errorf("%s: Normal is %s, %d", name, show(r), e)
		}
		if ok, e := regex.Nullable(x.r); e != x.want || ok {
			t.Errorf("%s: Nullable is %t, %d", name, ok, e)
		}
		if r, e := regex.Derive(x.r, 'a'); e != x.want || !zero(r) {
			t.Errorf("%s: Derive is %s, %d", name, show(r), e)
		}
		for _, s := range []string{"", "a", strings.Repeat("a", 65)} {
			if ok, e := regex.Match(x.r, s); e != x.want || ok {
				t.Errorf("%s: Match with %q is %t, %d", name, s, ok, e)
			}
		}
		if s, e := regex.Print(x.r); e != x.want || s != "" {
			t.Errorf("%s: Print is %q, %d", name, s, e)
		}
	}
}

// P4.2: pairs in increasing order.
func TestCompare(t *testing.T) {
	type R = regex.Regex
	for i, x := range [][2]R{
		{none, empty}, {empty, span(0, 0)}, {span(255, 255), cat()}, {cat(star(c)), alt()}, {alt(star(c)), all()}, {all(star(c)), not(none)}, {not(star(c)), star(none)},
		{span(0, 0), span(0, 1)}, {span(0, 255), span(1, 1)}, {span(127, 127), span(128, 128)}, {span(1, 127), span(1, 128)},
		{cat(), cat(none)}, {cat(a), cat(a, none)}, {cat(a, b), cat(a, c)}, {cat(a, c, c), cat(b)}, {cat(a, star(b)), cat(b, a)},
		{alt(a, b), alt(b, a)}, {all(none, star(a)), all(empty)}, {not(a), not(b)}, {star(cat(a)), star(cat(a, a))}, {star(cat(a, a)), star(cat(b))},
		{not(not(a)), not(not(b))}, {cat(cat(a)), cat(alt(a))}, {cat(span('a', 'z'), c), cat(b)},
		// Expressions that are not valid have an order as well.
		{{Kind: -1}, none}, {{Kind: math.MinInt}, {Kind: math.MaxInt}}, {star(a), {Kind: 8}}, {{Kind: regex.None}, {Kind: regex.None, Hi: 1}},
		{{Lo: 1, Hi: 2}, {Lo: 2, Hi: 1}}, {{Hi: 1, Kids: []R{star(a)}}, {Hi: 2}}, {{Kids: []R{a}}, {Kids: []R{a, a}}}, {{Kind: regex.Not}, {Kind: regex.Not, Kids: []R{none}}},
		{{Lo: 1, Kids: []R{c}}, {Lo: 2, Kids: []R{a}}},
		{nested(60000, a, not), nested(60000, b, not)}, {cat(times(100, a)...), cat(times(101, a)...)},
	} {
		if d := regex.Compare(x[0], x[1]); d != -1 {
			t.Errorf("%d: Compare is %d, not -1", i, d)
		}
		if d := regex.Compare(x[1], x[0]); d != 1 {
			t.Errorf("%d: Compare the other way is %d, not 1", i, d)
		}
		for _, r := range x {
			if d := regex.Compare(r, copied(r)); d != 0 {
				t.Errorf("%d: Compare with itself is %d", i, d)
			}
		}
	}
	if d := regex.Compare(R{Kind: regex.Cat}, R{Kind: regex.Cat, Kids: []R{}}); d != 0 {
		t.Errorf("nil and empty Kids: %d", d)
	}
}

// P4.3
func TestNullable(t *testing.T) {
	for i, x := range []struct {
		r    regex.Regex
		want bool
	}{
		{none, false}, {empty, true}, {a, false}, {span(0, 255), false},
		{cat(), true}, {cat(empty), true}, {cat(star(a), empty), true}, {cat(star(a), b), false}, {cat(b, star(a)), false},
		{alt(), false}, {alt(a), false}, {alt(a, empty), true}, {alt(empty, a), true}, {alt(none, a), false},
		{all(), true}, {all(empty), true}, {all(star(a), a), false}, {all(a, star(a)), false}, {all(star(a), star(b)), true},
		{not(none), true}, {not(empty), false}, {not(a), true}, {not(not(empty)), true}, {not(all()), false}, {not(star(a)), false},
		{star(none), true}, {star(a), true}, {star(cat(a, b)), true}, {star(not(empty)), true},
		{cat(times(33, all())...), true}, // its normal form has too many nodes
	} {
		if got, e := regex.Nullable(x.r); got != x.want || e != api.OK {
			t.Errorf("%d: %s: %t, %d", i, show(x.r), got, e)
		}
	}
}

// P4.10
func TestOrder(t *testing.T) {
	r := rand.New(rand.NewPCG(4, 10))
	for range 20000 {
		// Small ones, and variants of one another, are often equal or nearly so.
		n := 1 + r.IntN(6)
		x, y, z := random(r, n), random(r, n), random(r, n)
		if r.IntN(3) == 0 {
			y = copied(x)
			if len(y.Kids) > 0 {
				y.Kids[r.IntN(len(y.Kids))] = z
			}
		}
		xy, yx, yz, xz := regex.Compare(x, y), regex.Compare(y, x), regex.Compare(y, z), regex.Compare(x, z)
		switch {
		case xy != compared(x, y):
			t.Fatalf("Compare of %s and %s is %d", show(x), show(y), xy)
		case xy != -yx:
			t.Fatalf("Compare of %s and %s is %d, and %d the other way", show(x), show(y), xy, yx)
		case (xy == 0) != same(x, y):
			t.Fatalf("Compare of %s and %s is %d", show(x), show(y), xy)
		case xy <= 0 && yz <= 0 && xz > 0, xy >= 0 && yz >= 0 && xz < 0:
			t.Fatalf("%s, %s, %s: not transitive: %d, %d, %d", show(x), show(y), show(z), xy, yz, xz)
		}
	}
}
