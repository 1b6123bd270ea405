package regex_test

import (
	"math/rand/v2"
	"strconv"
	"strings"
	"testing"

	"enthymeme/regex"
)

// Expressions, without Parse.
var (
	none       = regex.Regex{Kind: regex.None}
	empty      = regex.Regex{Kind: regex.Empty}
	everything = not(none)
	a, b, c    = one('a'), one('b'), one('c')
)

func span(lo, hi byte) regex.Regex { return regex.Regex{Kind: regex.Range, Lo: lo, Hi: hi} }
func one(c byte) regex.Regex       { return span(c, c) }
func cat(kids ...regex.Regex) regex.Regex {
	return regex.Regex{Kind: regex.Cat, Kids: kids}
}
func alt(kids ...regex.Regex) regex.Regex {
	return regex.Regex{Kind: regex.Alt, Kids: kids}
}
func all(kids ...regex.Regex) regex.Regex {
	return regex.Regex{Kind: regex.All, Kids: kids}
}
func not(kid regex.Regex) regex.Regex {
	return regex.Regex{Kind: regex.Not, Kids: []regex.Regex{kid}}
}
func star(kid regex.Regex) regex.Regex {
	return regex.Regex{Kind: regex.Star, Kids: []regex.Regex{kid}}
}

// times returns n times the same expression.
func times(n int, r regex.Regex) []regex.Regex {
	var l []regex.Regex
	for range n {
		l = append(l, r)
	}
	return l
}

// nested applies f n times.
func nested(n int, r regex.Regex, f func(regex.Regex) regex.Regex) regex.Regex {
	for range n {
		r = f(r)
	}
	return r
}

// show writes an expression for messages, any one, and without Print.
func show(r regex.Regex) string {
	s := strconv.Itoa(r.Kind)
	if r.Lo != 0 || r.Hi != 0 {
		s += ":" + strconv.Itoa(int(r.Lo)) + "-" + strconv.Itoa(int(r.Hi))
	}
	if len(r.Kids) == 0 {
		return s
	}
	var kids []string
	for _, k := range r.Kids {
		kids = append(kids, show(k))
	}
	return s + "(" + strings.Join(kids, " ") + ")"
}

// same compares expressions without Compare.
func same(r, s regex.Regex) bool {
	if r.Kind != s.Kind || r.Lo != s.Lo || r.Hi != s.Hi || len(r.Kids) != len(s.Kids) {
		return false
	}
	for i := range r.Kids {
		if !same(r.Kids[i], s.Kids[i]) {
			return false
		}
	}
	return true
}

// zero reports whether an expression is what comes with an error.
func zero(r regex.Regex) bool {
	return same(r, regex.Regex{})
}

// size counts the nodes of an expression that does not contain itself.
func size(r regex.Regex) int {
	n := 1
	for _, k := range r.Kids {
		n += size(k)
	}
	return n
}

// copied returns an expression that shares no memory.
func copied(r regex.Regex) regex.Regex {
	kids := []regex.Regex(nil)
	for _, k := range r.Kids {
		kids = append(kids, copied(k))
	}
	r.Kids = kids
	return r
}

// each calls f for each node of an expression.
func each(r regex.Regex, f func(regex.Regex)) {
	f(r)
	for _, k := range r.Kids {
		each(k, f)
	}
}

// random returns a valid expression of at most n nodes (n is from 1 on), with few bytes and with Kids that normal forms change.
func random(r *rand.Rand, n int) regex.Regex {
	if n == 1 || r.IntN(10) == 0 {
		return randomLeaf(r)
	}
	switch kind := regex.Cat + r.IntN(5); kind {
	case regex.Not, regex.Star:
		return regex.Regex{Kind: kind, Kids: []regex.Regex{random(r, n-1)}}
	default:
		var kids []regex.Regex
		for left := n - 1; left > 0 && r.IntN(6) > 0; {
			k := random(r, 1+r.IntN(left))
			kids = append(kids, k)
			left -= size(k)
			if left > 0 && r.IntN(5) == 0 {
				k := kids[r.IntN(len(kids))]
				if size(k) <= left {
					kids = append(kids, copied(k))
					left -= size(k)
				}
			}
		}
		return regex.Regex{Kind: kind, Kids: kids}
	}
}

// randomLeaf returns an expression of one node.
func randomLeaf(r *rand.Rand) regex.Regex {
	switch r.IntN(12) {
	case 0:
		return none
	case 1:
		return empty
	case 2:
		return cat()
	case 3:
		return alt()
	case 4:
		return all()
	case 5:
		return span('a', 'b')
	case 6:
		lo := byte(r.IntN(256))
		return span(lo, lo+byte(r.IntN(256-int(lo))))
	case 7:
		return one(byte(r.IntN(256)))
	case 8, 9:
		return b
	}
	return a
}

// randomString returns a string of few bytes.
func randomString(r *rand.Rand, most int) string {
	var s []byte
	for range r.IntN(most + 1) {
		switch r.IntN(8) {
		case 0:
			s = append(s, byte(r.IntN(256)))
		case 1:
			s = append(s, 'c')
		default:
			s = append(s, 'a'+byte(r.IntN(2)))
		}
	}
	return string(s)
}

// matches is what the chapter says of the strings that an expression stands for, word by word.
func matches(r regex.Regex, s string) bool {
	switch r.Kind {
	case regex.Empty:
		return s == ""
	case regex.Range:
		return len(s) == 1 && r.Lo <= s[0] && s[0] <= r.Hi
	case regex.Cat:
		if len(r.Kids) == 0 {
			return s == ""
		}
		for i := range len(s) + 1 {
			if matches(r.Kids[0], s[:i]) && matches(cat(r.Kids[1:]...), s[i:]) {
				return true
			}
		}
	case regex.Alt:
		for _, k := range r.Kids {
			if matches(k, s) {
				return true
			}
		}
	case regex.All:
		for _, k := range r.Kids {
			if !matches(k, s) {
				return false
			}
		}
		return true
	case regex.Not:
		return !matches(r.Kids[0], s)
	case regex.Star:
		for i := 1; i <= len(s); i++ {
			if matches(r.Kids[0], s[:i]) && matches(r, s[i:]) {
				return true
			}
		}
		return s == ""
	}
	return false
}

// compared is what the chapter says of the order, word by word.
func compared(r, s regex.Regex) int {
	for _, pair := range [][2]int{{r.Kind, s.Kind}, {int(r.Lo), int(s.Lo)}, {int(r.Hi), int(s.Hi)}} {
		if pair[0] < pair[1] {
			return -1
		}
		if pair[0] > pair[1] {
			return 1
		}
	}
	for i, k := range r.Kids {
		if i == len(s.Kids) {
			return 1
		}
		if d := compared(k, s.Kids[i]); d != 0 {
			return d
		}
	}
	if len(r.Kids) < len(s.Kids) {
		return -1
	}
	return 0
}

// sorted returns expressions in increasing order, each once.
func sorted(kids []regex.Regex) []regex.Regex {
	var l []regex.Regex
insert:
	for _, k := range kids {
		for i := range l {
			switch d := compared(k, l[i]); {
			case d == 0:
				continue insert
			case d < 0:
				l = append(l[:i:i], append([]regex.Regex{k}, l[i:]...)...)
				continue insert
			}
		}
		l = append(l, k)
	}
	return l
}

// normalized is what the chapter's table says of normal forms, row by row and without limits.
func normalized(r regex.Regex) regex.Regex {
	var kids []regex.Regex
	for _, k := range r.Kids {
		kids = append(kids, normalized(k))
	}
	var flat []regex.Regex
	has := func(what regex.Regex) bool {
		for _, k := range flat {
			if same(k, what) {
				return true
			}
		}
		return false
	}
	gather := func(leave regex.Regex) {
		for _, k := range kids {
			if k.Kind == r.Kind {
				flat = append(flat, k.Kids...)
			} else if !same(k, leave) {
				flat = append(flat, k)
			}
		}
	}
	switch r.Kind {
	case regex.Cat:
		gather(empty)
		if has(none) {
			return none
		}
		if len(flat) == 0 {
			return empty
		}
		if len(flat) == 1 {
			return flat[0]
		}
		return cat(flat...)
	case regex.Alt:
		gather(none)
		if has(everything) {
			return everything
		}
		flat = sorted(flat)
		if len(flat) == 0 {
			return none
		}
		if len(flat) == 1 {
			return flat[0]
		}
		return alt(flat...)
	case regex.All:
		gather(everything)
		if has(none) {
			return none
		}
		flat = sorted(flat)
		if len(flat) == 0 {
			return everything
		}
		if len(flat) == 1 {
			return flat[0]
		}
		return all(flat...)
	case regex.Not:
		if kids[0].Kind == regex.Not {
			return kids[0].Kids[0]
		}
		return not(kids[0])
	case regex.Star:
		if same(kids[0], none) || same(kids[0], empty) {
			return empty
		}
		if kids[0].Kind == regex.Star || same(kids[0], everything) {
			return kids[0]
		}
		return star(kids[0])
	}
	return r
}

// derived is what the chapter says of derivatives, word by word and without limits.
func derived(r regex.Regex, c byte) regex.Regex {
	return normalized(raw(normalized(r), c))
}

// raw returns the expression of which the derivative is the normal form.
func raw(r regex.Regex, c byte) regex.Regex {
	var kids []regex.Regex
	for _, k := range r.Kids {
		kids = append(kids, derived(k, c))
	}
	switch r.Kind {
	case regex.None, regex.Empty:
		return none
	case regex.Range:
		if r.Lo <= c && c <= r.Hi {
			return empty
		}
		return none
	case regex.Cat:
		if len(r.Kids) == 0 {
			return none
		}
		first := cat(append([]regex.Regex{kids[0]}, r.Kids[1:]...)...)
		if matches(r.Kids[0], "") {
			return alt(first, derived(cat(r.Kids[1:]...), c))
		}
		return alt(first)
	case regex.Star:
		return cat(kids[0], r)
	}
	return regex.Regex{Kind: r.Kind, Kids: kids}
}

// separate fails the test if two lists of Kids in expressions share memory: what is written to one of them is read in another.
func separate(t *testing.T, what string, l ...regex.Regex) {
	t.Helper()
	var lists [][]regex.Regex
	for _, r := range l {
		each(r, func(r regex.Regex) {
			if len(r.Kids) > 0 {
				lists = append(lists, r.Kids)
			}
		})
	}
	for i, kids := range lists {
		for j := range kids {
			kids[j].Kind = 1000 + i
		}
	}
	for i, kids := range lists {
		for j := range kids {
			if kids[j].Kind != 1000+i {
				t.Fatalf("%s: two lists of Kids share memory", what)
			}
		}
	}
}
