package regex_test

import (
	"math/rand/v2"
	"strings"
	"testing"

	"enthymeme/api"
	"enthymeme/regex"
)

// P4.4
func TestMatch(t *testing.T) {
	ab := cat(a, b)
	long := strings.Repeat("a", 64)
	for i, x := range []struct {
		r       regex.Regex
		yes, no []string
	}{
		{none, nil, []string{"", "a", long}},
		{empty, []string{""}, []string{"a", "\x00", long}},
		{a, []string{"a"}, []string{"", "b", "aa", "`", "A", long}},
		{span('b', 'd'), []string{"b", "c", "d"}, []string{"", "a", "e", "bc"}},
		{span(0, 255), []string{"\x00", "a", "\xff"}, []string{"", "aa"}},
		{span(128, 255), []string{"\x80", "\xff"}, []string{"\x7f", "\x00", "\u00e9"}},
		{cat(), []string{""}, []string{"a"}},
		{cat(a), []string{"a"}, []string{"", "aa"}},
		{cat(a, b, c), []string{"abc"}, []string{"", "ab", "abcc", "bca", "acb", "aabc"}},
		{cat(a, none), nil, []string{"", "a"}},
		{cat(star(a), star(b)), []string{"", "a", "b", "ab", "aabb"}, []string{"ba", "aba", "c"}},
		{cat(star(a), a), []string{"a", "aa", long}, []string{"", "ab", "ba"}},
		{cat(alt(a, ab), alt(c, cat(b, c))), []string{"ac", "abc", "abbc"}, []string{"a", "ab", "abb"}},
		{alt(), nil, []string{"", "a"}},
		{alt(a), []string{"a"}, []string{"", "b"}},
		{alt(a, ab, empty), []string{"a", "ab", ""}, []string{"b", "aab", "aba"}},
		{all(), []string{"", "a", "\xff\x00", long}, nil},
		{all(a), []string{"a"}, []string{"", "b"}},
		{all(span('a', 'c'), span('b', 'd')), []string{"b", "c"}, []string{"a", "d", ""}},
		{all(star(cat(a, a)), star(cat(a, a, a))), []string{"", "aaaaaa", long[:60]}, []string{"aa", "aaa", long}},
		{all(a, b), nil, []string{"", "a", "b", "ab"}},
		{not(none), []string{"", "a", long}, nil},
		{not(empty), []string{"a", "aa"}, []string{""}},
		{not(a), []string{"", "b", "aa"}, []string{"a"}},
		{not(not(a)), []string{"a"}, []string{"", "b"}},
		{not(all()), nil, []string{"", "a"}},
		{cat(not(a), not(a)), []string{"", "b", "aa", "aaa"}, []string{"a"}}, // "aa" is "aa" and nothing
		{cat(a, not(b)), []string{"a", "aa", long}, []string{"", "ab", "b" + long[:63]}},
		{cat(not(a), b), []string{"b", "bb", "aab"}, []string{"", "ab", "a"}},
		{not(cat(not(none), ab, not(none))), []string{"", "a", "ba", "acb"}, []string{"ab", "cabc"}},
		{star(none), []string{""}, []string{"a"}},
		{star(empty), []string{""}, []string{"a"}},
		{star(a), []string{"", "a", long}, []string{"b", "ab", "ba"}},
		{star(ab), []string{"", "ab", "abab"}, []string{"a", "aba", "ba", "aabb"}},
		{star(alt(ab, cat(b, a))), []string{"", "abba", "baab", "abab"}, []string{"aabb", "b"}},
		{star(alt(cat(a, a), cat(a, a, a))), []string{"", "aa", "aaa", "aaaaa", long}, []string{"a", "aab"}},
		{star(cat(a, star(b))), []string{"", "abba", "aab"}, []string{"b", "ba"}},
		{star(not(a)), []string{"", "b", "aa", "aaa"}, []string{"a"}},
		{star(alt(empty, cat(a, a))), []string{"", "aa", "aaaa"}, []string{"a", "aaa"}},
		{cat(star(a), star(star(b)), c), []string{"c", "abc"}, []string{"", "cc", "ba"}},
		{cat(star(span(0, 255)), b), []string{long[:63] + "b"}, []string{long, "b" + long[:63]}},
		{cat(b, star(span(0, 255))), []string{"b" + long[:63]}, []string{long, long[:63] + "b"}},
		{cat(times(63, a)...), []string{long[:63]}, []string{long, long[:62], long[:62] + "b"}},
		{cat(times(31, cat(a))...), []string{long[:31]}, []string{long, long[:30], long[:32]}},
		{star(cat(times(32, a)...)), []string{"", long[:32], long}, []string{long[:31], long[:63]}},
		{nested(63, a, not), []string{"", "b", long}, []string{"a"}},
		{nested(62, a, not), []string{"a"}, []string{"", "b", long}},
		{nested(63, a, star), []string{"", long}, []string{long[:63] + "b"}},
		{cat(times(31, star(a))...), []string{"", "a", long}, []string{long[:63] + "b", "b" + long[:63], long[:31] + "b" + long[:32]}},
		{cat(times(63, all())...), []string{"", long}, nil}, // its normal form has too many nodes
		{not(cat(append(times(30, star(a)), b)...)), []string{"", long}, []string{long[:63] + "b"}},
	} {
		before := copied(x.r)
		for _, s := range x.yes {
			if ok, e := regex.Match(x.r, s); !ok || e != api.OK {
				t.Errorf("%d: %s with %q: %t, %d", i, show(x.r), s, ok, e)
			}
		}
		for _, s := range x.no {
			if ok, e := regex.Match(x.r, s); ok || e != api.OK {
				t.Errorf("%d: %s with %q: %t, %d", i, show(x.r), s, ok, e)
			}
		}
		if !same(before, x.r) {
			t.Errorf("%d: %s has become %s", i, show(before), show(x.r))
		}
	}
}

// P4.4
func TestMatchLimit(t *testing.T) {
	for i, r := range []regex.Regex{none, empty, a, star(a), all(), not(none), cat(times(31, star(a))...)} {
		for _, n := range []int{65, 66, 100, 128, 129, 1000000} {
			if ok, e := regex.Match(r, strings.Repeat("a", n)); ok || e != api.ErrLimit {
				t.Errorf("%d: %d bytes: %t, %d", i, n, ok, e)
			}
		}
	}
}

// P4.4: each length, with the byte that matters at each place.
func TestMatchPlaces(t *testing.T) {
	anything := star(span(0, 255))
	for n := range 65 {
		for i := range n {
			s := strings.Repeat("a", i) + "b" + strings.Repeat("a", n-i-1)
			for name, x := range map[string]struct {
				r    regex.Regex
				want bool
			}{
				"a b in it":      {cat(star(a), b, star(a)), true},
				"no b in it":     {star(a), false},
				"a b at the end": {cat(anything, b), i == n-1},
				"a b at first":   {cat(b, anything), i == 0},
				"not ab in it":   {not(cat(anything, a, b, anything)), i == 0},
				"an even number": {cat(star(cat(a, a)), b, anything), i%2 == 0},
			} {
				if ok, e := regex.Match(x.r, s); ok != x.want || e != api.OK {
					t.Fatalf("%s: %q: %t, %d", name, s, ok, e)
				}
			}
		}
	}
}

// P4.4, against the chapter's words.
func TestMatchAtRandom(t *testing.T) {
	r := rand.New(rand.NewPCG(4, 4))
	for range 5000 {
		x := random(r, 1+r.IntN(20))
		for range 4 {
			s := randomString(r, 6)
			if got, e := regex.Match(x, s); e != api.OK || got != matches(x, s) {
				t.Fatalf("%s with %q: %t, %d", show(x), s, got, e)
			}
		}
	}
}

// P4.8: long strings and large expressions, against the derivatives that are not too large.
func TestMatchByDerivatives(t *testing.T) {
	r := rand.New(rand.NewPCG(4, 88))
	compared := 0
	for range 2000 {
		x := random(r, 1+r.IntN(64))
		s := randomString(r, 64)
		want, e := regex.Match(x, s)
		if e != api.OK {
			t.Fatalf("%s with %q: %d", show(x), s, e)
		}
		d := x
		for i := range len(s) {
			if d, e = regex.Derive(d, s[i]); e != api.OK {
				break
			}
		}
		if e != api.OK {
			continue
		}
		compared++
		if got, e := regex.Nullable(d); e != api.OK || got != want {
			t.Fatalf("%s with %q: %t, but after its derivatives %t, %d", show(x), s, want, got, e)
		}
	}
	if compared < 1000 {
		t.Errorf("only %d were compared", compared)
	}
}

// P4.9
func TestSets(t *testing.T) {
	r := rand.New(rand.NewPCG(4, 9))
	match := func(x regex.Regex, s string) bool {
		t.Helper()
		ok, e := regex.Match(x, s)
		if e != api.OK {
			t.Fatalf("%s with %q: %d", show(x), s, e)
		}
		return ok
	}
	for range 5000 {
		x, y, z := random(r, 1+r.IntN(15)), random(r, 1+r.IntN(15)), random(r, 1+r.IntN(15))
		s := randomString(r, 10)
		inX, inY, inZ := match(x, s), match(y, s), match(z, s)
		if match(alt(x, y, z), s) != (inX || inY || inZ) {
			t.Fatalf("Alt of %s, %s, %s with %q", show(x), show(y), show(z), s)
		}
		if match(all(x, y, z), s) != (inX && inY && inZ) {
			t.Fatalf("All of %s, %s, %s with %q", show(x), show(y), show(z), s)
		}
		if match(not(x), s) == inX {
			t.Fatalf("Not of %s with %q", show(x), s)
		}
		if match(star(x), s) != (s == "" || match(cat(x, star(x)), s)) {
			t.Fatalf("Star of %s with %q", show(x), s)
		}
	}
}
