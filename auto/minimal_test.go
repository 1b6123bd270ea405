package auto_test

import (
	"math/rand/v2"
	"slices"
	"testing"

	"enthymeme/api"
	"enthymeme/auto"
)

// P5.5
func TestMinimal(t *testing.T) {
	every := make([]int, 256)
	for s := range every {
		every[s] = s
	}
	few := func(cuts []int, accept []bool, next ...[]int) A { return A{Cuts: cuts, Next: next, Accept: accept} }
	yes, no := []bool{true}, []bool{false}
	for i, x := range []struct{ a, want A }{
		{nothing, nothing}, {everything, everything}, {circle(1), everything}, {circle(2), circle(2)}, {circle(255), circle(255)}, {circle(256), circle(256)}, {chain(2), chain(2)}, {chain(256), chain(256)},
		// States that are alike.
		{line(nil, 1, 0), nothing}, {line([]int{0, 1}, 1, 1), everything}, {line([]int{0, 3}, 1, 2, 3, 4, 5, 0), circle(3)}, {line([]int{0, 2}, 1, 2, 3, 0), circle(2)}, {line(every, nexts(circle(256))...), everything}, {line(nil, nexts(circle(256))...), nothing}, {line(every[:255], nexts(chain(256))...), line(every[:255], nexts(chain(256))...)}, {line(every[1:], nexts(chain(256))...), chain(2)}, {line(every[128:], nexts(circle(256))...), line(every[128:], nexts(circle(256))...)}, {line([]int{0, 128}, nexts(circle(256))...), circle(128)},
		{line([]int{2, 3}, 1, 3, 2, 2), chain(3)}, {line([]int{0, 2}, 1, 3, 3, 2), line([]int{0, 3}, 1, 2, 3, 2)},
		{few([]int{0, 9}, []bool{false, true, true}, []int{1, 2}, []int{1, 1}, []int{2, 1}), chain(2)},
		// States that nothing reaches.
		{line([]int{0, 1}, 0, 0), everything}, {line([]int{1}, 0, 0), nothing}, {line([]int{0, 1}, 2, 0, 0), circle(2)}, {line([]int{3}, 3, 2, 1, 3), chain(2)},
		// The order in which states are reached.
		{few([]int{0, 97}, []bool{false, true, false}, []int{2, 1}, []int{2, 1}, []int{2, 2}), few([]int{0, 97}, []bool{false, false, true}, []int{1, 2}, []int{1, 1}, []int{1, 2})},
		{few([]int{0, 97}, []bool{false, true, false}, []int{1, 2}, []int{2, 1}, []int{2, 2}), few([]int{0, 97}, []bool{false, true, false}, []int{1, 2}, []int{2, 1}, []int{2, 2})},
		{line([]int{3}, 2, 3, 1, 0), line([]int{3}, 1, 2, 3, 0)},
		{few([]int{0, 5}, []bool{true, true, false, false, true}, []int{3, 2}, []int{0, 0}, []int{4, 4}, []int{1, 0}, []int{3, 1}), few([]int{0, 5}, []bool{true, false, false, true, true}, []int{1, 2}, []int{3, 0}, []int{4, 4}, []int{0, 0}, []int{1, 3})},
		// Cuts at which nothing begins.
		{few([]int{0, 1}, yes, []int{0, 0}), everything}, {few([]int{0, 1, 97, 255}, no, []int{0, 0, 0, 0}), nothing}, {lastBytes(), nothing}, {lastBytes(every...), everything},
		{lastBytes(200), few([]int{0, 200, 201}, []bool{false, true}, []int{0, 1, 0}, []int{0, 1, 0})}, {lastBytes(0), few([]int{0, 1}, []bool{true, false}, []int{0, 1}, []int{0, 1})}, {lastBytes(255), few([]int{0, 255}, []bool{false, true}, []int{0, 1}, []int{0, 1})}, {lastBytes(every[100:200]...), few([]int{0, 100, 200}, []bool{false, true}, []int{0, 1, 0}, []int{0, 1, 0})},
		{few([]int{0, 3, 4, 5}, []bool{false, true}, []int{0, 0, 1, 1}, []int{1, 1, 0, 0}), few([]int{0, 4}, []bool{false, true}, []int{0, 1}, []int{1, 0})},
		{few([]int{0, 3, 4, 5}, []bool{false, true}, []int{0, 0, 1, 1}, []int{1, 0, 0, 0}), few([]int{0, 3, 4}, []bool{false, true}, []int{0, 0, 1}, []int{1, 0, 0})}, // something begins in one of the states
		{few([]int{0, 3, 4, 5}, []bool{false, true}, []int{0, 0, 1, 0}, []int{1, 1, 0, 1}), few([]int{0, 4, 5}, []bool{false, true}, []int{0, 1, 0}, []int{1, 0, 1})}, // as for the class before the one before
		{few([]int{0, 3}, []bool{false, true, false}, []int{1, 1}, []int{1, 1}, []int{0, 1}), chain(2)},                                                               // it begins where nothing leads
		{few([]int{0, 3}, []bool{true, false, false}, []int{1, 2}, []int{0, 0}, []int{0, 0}), circle(2)},                                                              // two are one
		// Expressions.
		{of(t, "'a'*'a'*"), of(t, "'a'*")}, {of(t, "'a'!'a'"), of(t, "'a'!'a'")},
		{of(t, "'a'|'b'"), of(t, "['a'-'b']")}, {of(t, "'a'&'b'"), nothing}, {of(t, "['a'-'c']&['b'-'d']"), of(t, "['b'-'c']")}, {of(t, "!(!'a'|!'b')"), nothing}, {of(t, "('a'*'b'*)*"), of(t, "['a'-'b']*")}, {of(t, "'a''b'|'a''c'"), of(t, "'a'['b'-'c']")},
	} {
		before := copied(x.a)
		got, e := auto.Minimal(x.a)
		want := x.want
		if e != api.OK || !same(got, want) {
			t.Errorf("%d: %v, %d, not %v", i, got, e, want)
		}
		if again, e := auto.Minimal(got); e != api.OK || !same(again, got) {
			t.Errorf("%d: once more: %v, %d, not %v", i, again, e, got)
		}
		if !same(before, x.a) {
			t.Errorf("%d: the automaton has become %v", i, x.a)
		}
	}
}

// least fails the test unless m is the least form of a: by what the chapter says, with all pairs of states compared.
func least(t *testing.T, m, a A) {
	t.Helper()
	if e := auto.Valid(m); e != api.OK {
		t.Fatalf("%v, of %v, is not valid: %d", m, a, e)
	}
	if differ(a, 0, m, 0) {
		t.Fatalf("%v accepts other strings than %v", m, a)
	}
	if !inOrder(m) {
		t.Fatalf("%v is not in order", m)
	}
	for s := range m.Next {
		for u := range s {
			if !differ(m, s, m, u) {
				t.Fatalf("%v: the states %d and %d are alike", m, u, s)
			}
		}
	}
	for k := 1; k < len(m.Cuts); k++ {
		if !slices.Contains(a.Cuts, m.Cuts[k]) {
			t.Fatalf("%v has a cut that %v has not", m, a)
		}
		if !slices.ContainsFunc(m.Next, func(next []int) bool { return next[k] != next[k-1] }) {
			t.Fatalf("%v: nothing begins at %d", m, m.Cuts[k])
		}
	}
}

// P5.5 and P5.10
func TestMinimalAtRandom(t *testing.T) {
	r := rand.New(rand.NewPCG(5, 5))
	for range 500 {
		a := random(r, 10, 5)
		m := must(t)(auto.Minimal(a))
		least(t, m, a)
		if again := must(t)(auto.Minimal(m)); !same(m, again) {
			t.Fatalf("%v has become %v", m, again)
		}
		b := blown(r, a, len(a.Next)+r.IntN(40))
		if other := must(t)(auto.Minimal(b)); !same(m, other) {
			t.Fatalf("%v leads to %v, but %v to %v", a, m, b, other)
		}
	}
	for range 5 {
		a := random(r, 256, 10)
		b := blown(r, a, 256)
		m := must(t)(auto.Minimal(a))
		if other := must(t)(auto.Minimal(b)); !same(m, other) || differ(m, 0, a, 0) {
			t.Fatalf("%v leads to %v, but %v to %v", a, m, b, other)
		}
	}
}

// P5.10: automata of few strings, so that many pairs accept the same ones.
func TestLeastForm(t *testing.T) {
	r := rand.New(rand.NewPCG(5, 10))
	alike := 0
	for range 40000 {
		classes := 1 + r.IntN(2)
		a, b := random(r, 3, classes), random(r, 3, classes)
		m, n := must(t)(auto.Minimal(a)), must(t)(auto.Minimal(b))
		if same(m, n) == differ(a, 0, b, 0) {
			t.Fatalf("%v and %v lead to %v and %v", a, b, m, n)
		}
		if same(m, n) && len(m.Next) > 1 {
			alike++
		}
	}
	if alike < 100 {
		t.Errorf("only %d pairs were alike", alike)
	}
}

// P5.10: laws of sets.
func TestLaws(t *testing.T) {
	r := rand.New(rand.NewPCG(5, 11))
	join := func(a, b A, or bool) A { return must(t)(auto.Both(a, b, or)) }
	others := func(a A) A { return must(t)(auto.Complement(a)) }
	for range 500 {
		a, b, c := random(r, 5, 4), random(r, 5, 4), random(r, 5, 4)
		for name, pair := range map[string][2]A{
			"not not":       {others(others(a)), a},
			"or by and":     {join(a, b, true), others(join(others(a), others(b), false))},
			"either way":    {join(a, b, false), join(b, a, false)},
			"distributive":  {join(a, join(b, c, true), false), join(join(a, b, false), join(a, c, false), true)},
			"none left":     {join(a, others(a), false), nothing},
			"all together":  {join(a, others(a), true), everything},
			"with itself":   {join(a, a, true), a},
			"with nothing":  {join(a, nothing, true), a},
			"absorbed":      {join(a, join(a, b, false), true), a},
			"and all of it": {join(a, everything, false), a},
		} {
			m, n := must(t)(auto.Minimal(pair[0])), must(t)(auto.Minimal(pair[1]))
			if !same(m, n) {
				t.Fatalf("%s: %v and %v, of %v, %v, %v", name, m, n, a, b, c)
			}
		}
	}
}
