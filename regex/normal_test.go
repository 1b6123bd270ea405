package regex_test

import (
	"math/rand/v2"
	"testing"

	"enthymeme/api"
	"enthymeme/regex"
)

// P4.2
func TestNormal(t *testing.T) {
	for i, x := range []struct{ r, want regex.Regex }{
		{none, none}, {empty, empty}, {a, a}, {span(0, 255), span(0, 255)}, {regex.Regex{Kind: regex.Range, Hi: 9, Kids: []regex.Regex{}}, span(0, 9)},
		{cat(), empty}, {cat(a), a}, {cat(empty), empty}, {cat(none), none}, {cat(a, b), cat(a, b)}, {cat(b, a), cat(b, a)}, {cat(a, a), cat(a, a)},
		{cat(empty, a, empty), a}, {cat(a, empty, b), cat(a, b)}, {cat(a, none, b), none}, {cat(empty, empty), empty},
		{cat(cat(a, b), c), cat(a, b, c)}, {cat(a, cat(b, cat(c, a))), cat(a, b, c, a)}, {cat(cat(), a, cat(b)), cat(a, b)}, {cat(a, alt(), everything), none}, {cat(everything, a), cat(everything, a)}, {cat(all(), all()), cat(everything, everything)},
		{alt(), none}, {alt(a), a}, {alt(none), none}, {alt(none, a, none), a}, {alt(b, a), alt(a, b)}, {alt(a, a), a}, {alt(b, a, b, a), alt(a, b)}, {alt(a, empty), alt(empty, a)},
		{alt(a, everything, b), everything}, {alt(a, all()), everything}, {alt(a, not(alt())), everything}, {alt(alt(c, a), b), alt(a, b, c)}, {alt(a, alt(b, alt(a, c))), alt(a, b, c)}, {alt(alt(a, b), alt(b, a)), alt(a, b)}, {alt(star(a), not(a), all(a, b), cat(a, b), a, empty), alt(empty, a, cat(a, b), all(a, b), not(a), star(a))}, {alt(a, cat(none, a)), a}, {alt(cat(a), a), a},
		{all(), everything}, {all(a), a}, {all(everything), everything}, {all(a, everything), a}, {all(a, all()), a}, {all(b, a), all(a, b)}, {all(a, a), a}, {all(a, none), none}, {all(a, alt(), everything), none}, {all(all(c, a), b), all(a, b, c)}, {all(c, all(b, all(c, a))), all(a, b, c)}, {all(empty, a), all(empty, a)}, {all(not(not(a)), a), a},
		{not(none), everything}, {not(a), not(a)}, {not(not(a)), a}, {not(not(not(a))), not(a)}, {not(not(not(not(a)))), a}, {not(all()), none}, {not(alt()), everything}, {not(cat(a)), not(a)}, {not(alt(not(a))), a}, {not(everything), none}, {not(cat(not(cat(a, b)))), cat(a, b)},
		{star(none), empty}, {star(empty), empty}, {star(a), star(a)}, {star(star(a)), star(a)}, {star(everything), everything}, {star(all()), everything}, {star(cat()), empty}, {star(alt()), empty}, {star(not(a)), star(not(a))}, {star(alt(star(a))), star(a)}, {star(star(star(cat(b, a)))), star(cat(b, a))}, {star(not(not(star(a)))), star(a)}, {star(not(empty)), star(not(empty))},
		{cat(star(a), star(a)), cat(star(a), star(a))}, {alt(cat(a, b), cat(a), cat(a, a)), alt(a, cat(a, a), cat(a, b))}, {alt(span('a', 'c'), span('b', 'b'), span('a', 'a')), alt(a, span('a', 'c'), b)},
	} {
		before := copied(x.r)
		got, e := regex.Normal(x.r)
		if !same(got, x.want) || e != api.OK {
			t.Errorf("%d: %s: %s, %d, not %s", i, show(x.r), show(got), e, show(x.want))
		}
		if !same(before, x.r) {
			t.Errorf("%d: %s has become %s", i, show(before), show(x.r))
		}
	}
}

// P4.2: only the nodes of the normal form count.
func TestNormalLimit(t *testing.T) {
	for i, x := range []struct {
		r    regex.Regex
		size int
	}{
		{cat(append(times(31, all()), a)...), 64}, {cat(times(32, all())...), 65}, {cat(times(63, all())...), 127},
		{cat(times(63, a)...), 64}, {alt(cat(times(30, all())...), a, b), 64}, {alt(cat(times(30, all())...), a, b, c), 65},
		{alt(cat(times(61, all())...), all()), 2}, {cat(append(times(62, all()), none)...), 1}, {all(times(63, all())...), 2}, {not(nested(61, all(), not)), 2}, {star(nested(62, all(), star)), 2},
	} {
		got, e := regex.Normal(x.r)
		if x.size > 64 {
			if e != api.ErrLimit || !zero(got) {
				t.Errorf("%d: %s, %d", i, show(got), e)
			}
		} else if e != api.OK || size(got) != x.size || !same(got, normalized(x.r)) {
			t.Errorf("%d: %s, %d", i, show(got), e)
		}
	}
}

// P4.3
func TestDerive(t *testing.T) {
	ab := cat(a, b)
	for i, x := range []struct {
		r    regex.Regex
		c    byte
		want regex.Regex
	}{
		{none, 'a', none}, {empty, 'a', none}, {a, 'a', empty}, {a, 'b', none}, {span('b', 'd'), 'a', none}, {span('b', 'd'), 'b', empty}, {span('b', 'd'), 'd', empty}, {span('b', 'd'), 'e', none}, {span(0, 255), 0, empty}, {span(0, 255), 255, empty}, {span(128, 200), 150, empty},
		{cat(), 'a', none}, {cat(a), 'a', empty}, {ab, 'a', b}, {ab, 'b', none}, {cat(a, b, c), 'a', cat(b, c)}, {cat(a, a), 'a', a},
		// The example of the chapter.
		{cat(star(a), b), 'a', cat(star(a), b)}, {cat(star(a), b), 'b', empty},
		{cat(star(a), star(b)), 'b', star(b)}, {cat(star(a), star(b)), 'a', cat(star(a), star(b))}, {cat(star(a), star(b)), 'c', none}, {cat(star(a), star(a)), 'a', alt(cat(star(a), star(a)), star(a))}, {cat(star(a), star(a), b), 'b', empty}, {cat(star(a), b, star(b)), 'b', star(b)},
		{cat(star(a), star(b), star(a)), 'a', alt(cat(star(a), star(b), star(a)), star(a))}, {cat(alt(a, empty), a, b), 'a', alt(b, ab)},
		{alt(a, b), 'a', empty}, {alt(a, b), 'c', none}, {alt(cat(a, c), ab), 'a', alt(b, c)}, {alt(cat(a, b), star(a)), 'a', alt(b, star(a))}, {alt(), 'a', none},
		{all(span('a', 'b'), span('b', 'c')), 'a', none}, {all(span('a', 'b'), span('b', 'c')), 'b', empty}, {all(cat(span('a', 'b'), c), cat(a, span('a', 'c'))), 'a', all(span('a', 'c'), c)}, {all(), 'a', everything}, {all(star(a), not(star(b))), 'a', star(a)},
		{not(none), 'a', everything}, {not(a), 'a', not(empty)}, {not(a), 'b', everything}, {not(not(a)), 'a', empty}, {not(empty), 'a', everything}, {not(star(a)), 'a', not(star(a))}, {not(cat(a, everything)), 'a', none}, {not(cat(a, not(b))), 'a', b},
		{star(a), 'a', star(a)}, {star(a), 'b', none}, {star(ab), 'a', cat(b, star(ab))}, {star(alt(a, ab)), 'a', cat(alt(empty, b), star(alt(a, ab)))}, {star(star(a)), 'a', star(a)}, {star(cat(a, star(b))), 'a', cat(star(b), star(cat(a, star(b))))}, {star(none), 'a', none}, {star(everything), 'z', everything}, {star(not(a)), 'b', cat(everything, star(not(a)))},
		// The normal form comes first.
		{cat(cat(a), cat(empty, b)), 'a', b}, {alt(b, cat(a, c), cat(a, b)), 'a', alt(b, c)}, {star(alt(b, a)), 'a', star(alt(a, b))}, {cat(a, alt(c, b)), 'a', alt(b, c)},
	} {
		before := copied(x.r)
		got, e := regex.Derive(x.r, x.c)
		if !same(got, x.want) || e != api.OK {
			t.Errorf("%d: %s by %d: %s, %d, not %s", i, show(x.r), x.c, show(got), e, show(x.want))
		}
		if !same(before, x.r) {
			t.Errorf("%d: %s has become %s", i, show(before), show(x.r))
		}
	}
}

// P4.3: only the nodes of the derivative count.
func TestDeriveLimit(t *testing.T) {
	options := cat(times(21, alt(empty, a))...)               // 64 nodes as it is, 106 by a
	wide := cat(append(times(7, star(a)), times(7, b)...)...) // 22 nodes
	for i, x := range []struct {
		r    regex.Regex
		c    byte
		size int
	}{
		{cat(append([]regex.Regex{a}, times(32, all())...)...), 'b', 1}, // its normal form has 66 nodes
		{cat(append([]regex.Regex{a}, times(32, all())...)...), 'a', 65},
		{cat(append(append([]regex.Regex{a}, times(31, all())...), b)...), 'a', 64},
		{cat(times(63, all())...), 'a', 2},
		{cat(times(63, a)...), 'a', 63},
		{options, 'a', 1000}, {options, 'b', 1}, {wide, 'a', 1000}, {wide, 'b', 7}, {wide, 'c', 1},
		{star(cat(times(21, a)...)), 'a', 1 + 20 + 23}, {star(cat(times(31, a)...)), 'a', 1 + 30 + 33}, {star(cat(times(32, a)...)), 'a', 1 + 31 + 34},
	} {
		got, e := regex.Derive(x.r, x.c)
		if x.size > 64 {
			if e != api.ErrLimit || !zero(got) {
				t.Errorf("%d: %s, %d", i, show(got), e)
			}
		} else if e != api.OK || size(got) != x.size || !same(got, derived(x.r, x.c)) {
			t.Errorf("%d: %s, %d", i, show(got), e)
		}
	}
}

// P4.2 and P4.3, against the chapter's words.
func TestFormsAtRandom(t *testing.T) {
	r := rand.New(rand.NewPCG(4, 2))
	limits := 0
	for range 20000 {
		x := random(r, 1+r.IntN(64))
		by := byte('a' + r.IntN(3))
		for name, want := range map[string]regex.Regex{"Normal": normalized(x), "Derive": derived(x, by)} {
			got, e := regex.Normal(x)
			if name == "Derive" {
				got, e = regex.Derive(x, by)
			}
			if size(want) > 64 {
				limits++
				if e != api.ErrLimit || !zero(got) {
					t.Fatalf("%s of %s is %s, %d", name, show(x), show(got), e)
				}
			} else if e != api.OK || !same(got, want) {
				t.Fatalf("%s of %s is %s, %d, not %s", name, show(x), show(got), e, show(want))
			}
		}
	}
	if limits < 20 {
		t.Errorf("only %d results were too large", limits)
	}
}

// P4.7
func TestSameStrings(t *testing.T) {
	r := rand.New(rand.NewPCG(4, 7))
	for range 5000 {
		x := random(r, 1+r.IntN(16))
		n, e := regex.Normal(x)
		if e != api.OK {
			t.Fatalf("Normal of %s: %d", show(x), e)
		}
		if size(n) > 2*size(x) {
			t.Fatalf("Normal of %s is %s", show(x), show(n))
		}
		if again, e := regex.Normal(n); e != api.OK || !same(again, n) {
			t.Fatalf("Normal of %s is %s, %d", show(n), show(again), e)
		}
		for range 5 {
			s := randomString(r, 5)
			got, e := regex.Match(n, s)
			if e != api.OK || got != matches(x, s) {
				t.Fatalf("Match of %s, from %s, with %q is %t, %d", show(n), show(x), s, got, e)
			}
		}
	}
}

// P4.8
func TestDerivatives(t *testing.T) {
	r := rand.New(rand.NewPCG(4, 8))
	for range 5000 {
		x := random(r, 1+r.IntN(20))
		nullable, e := regex.Nullable(x)
		blank, f := regex.Match(x, "")
		if e != api.OK || f != api.OK || nullable != blank {
			t.Fatalf("Nullable of %s is %t, Match of nothing %t", show(x), nullable, blank)
		}
		s := randomString(r, 8) + "a"
		d, e := regex.Derive(x, s[0])
		if e != api.OK {
			continue
		}
		whole, e := regex.Match(x, s)
		rest, f := regex.Match(d, s[1:])
		if e != api.OK || f != api.OK || whole != rest {
			t.Fatalf("%s with %q is %t, its derivative %s with %q %t", show(x), s, whole, show(d), s[1:], rest)
		}
	}
}

// R3
func TestSeparateMemory(t *testing.T) {
	r := rand.New(rand.NewPCG(3, 3))
	for range 3000 {
		x := random(r, 1+r.IntN(24))
		n, _ := regex.Normal(x)
		d, _ := regex.Derive(x, 'a')
		separate(t, "Normal and Derive", x, n, d)
	}
	shared := alt(a, b)
	n, _ := regex.Normal(cat(shared, shared))
	separate(t, "Normal of shared Kids", n)
	d, _ := regex.Derive(cat(star(shared), star(shared)), 'a')
	separate(t, "Derive of Stars", d)
	e, _ := regex.Normal(cat(all(), all()))
	separate(t, "Normal of everything", e)
}
