package regex

import (
	"slices"

	"enthymeme/api"
)

// Normal returns an expression with the same strings in normal form.
func Normal(r Regex) (Regex, api.Errno) {
	if e := Valid(r); e != api.OK {
		return Regex{}, e
	}
	return result(newForms().normal(r))
}

// Derive returns the normal form for what follows a byte.
func Derive(r Regex, c byte) (Regex, api.Errno) {
	if e := Valid(r); e != api.OK {
		return Regex{}, e
	}
	f := newForms()
	return result(f.derivative(f.normal(r), c))
}

// result returns what an exported function has computed, as an expression of its own.
func result(r Regex) (Regex, api.Errno) {
	if tooLarge(r) {
		return Regex{}, api.ErrLimit
	}
	return clone(r), api.OK
}

// clone returns an expression that shares no memory: while normal forms are made, parts of them are used again and again.
func clone(r Regex) Regex {
	kids := make([]Regex, 0, len(r.Kids))
	for _, k := range r.Kids {
		kids = append(kids, clone(k))
	}
	return Regex{Kind: r.Kind, Lo: r.Lo, Hi: r.Hi, Kids: kids}
}

// forms has for each kind the function that returns the normal form of an expression whose Kids are in normal form.
type forms map[int]func(r Regex) Regex

// newForms returns the functions of all kinds. None of them changes the Kids that it is handed.
func newForms() forms {
	none, empty := Regex{Kind: None}, Regex{Kind: Empty}
	everything := Regex{Kind: Not, Kids: []Regex{none}}
	itself := func(r Regex) Regex { return r }
	return forms{
		None:  itself,
		Empty: itself,
		Range: itself,
		Cat:   joined(empty, none, inSequence),
		Alt:   joined(none, everything, inOrder),
		All:   joined(everything, none, inOrder),
		Not: func(r Regex) Regex {
			if k := r.Kids[0]; k.Kind == Not {
				return k.Kids[0]
			}
			return r
		},
		Star: func(r Regex) Regex {
			switch k := r.Kids[0]; {
			case k.Kind == None || k.Kind == Empty:
				return empty
			case k.Kind == Star || equal(k, everything):
				return k
			}
			return r
		},
	}
}

// joined returns the function of a kind with any number of Kids: one of them can be left out if it is the neutral expression, and is all that counts if it is the absorbing one.
func joined(neutral, absorbing Regex, arrange func(kids []Regex) []Regex) func(r Regex) Regex {
	return func(r Regex) Regex {
		kids := flat(r, neutral)
		if slices.ContainsFunc(kids, func(k Regex) bool { return equal(k, absorbing) }) {
			return absorbing
		}
		switch kids = arrange(kids); len(kids) {
		case 0:
			return neutral
		case 1:
			return kids[0]
		}
		return Regex{Kind: r.Kind, Kids: kids}
	}
}

// flat returns, in a new slice, the Kids of an expression with those of its own kind replaced by their Kids, and without the neutral ones. The Kids of a Kid in normal form are neither neutral nor of its kind.
func flat(r Regex, neutral Regex) []Regex {
	kids := make([]Regex, 0, len(r.Kids))
	for _, k := range r.Kids {
		switch {
		case k.Kind == r.Kind:
			kids = append(kids, k.Kids...)
		case !equal(k, neutral):
			kids = append(kids, k)
		}
	}
	return kids
}

// inSequence leaves Kids as they are.
func inSequence(kids []Regex) []Regex {
	return kids
}

// inOrder brings Kids into increasing order, each once.
func inOrder(kids []Regex) []Regex {
	slices.SortFunc(kids, Compare)
	return slices.CompactFunc(kids, equal)
}

// equal reports whether two expressions are the same.
func equal(a, b Regex) bool {
	return Compare(a, b) == 0
}

// normal returns the normal form of a valid expression, of any size.
func (f forms) normal(r Regex) Regex {
	kids := make([]Regex, 0, len(r.Kids))
	for _, k := range r.Kids {
		kids = append(kids, f.normal(k))
	}
	return f[r.Kind](Regex{Kind: r.Kind, Lo: r.Lo, Hi: r.Hi, Kids: kids})
}

// join returns the normal form of an expression of a kind with Kids in normal form.
func (f forms) join(kind int, kids ...Regex) Regex {
	return f[kind](Regex{Kind: kind, Kids: kids})
}

// derivative returns the derivative, of any size, of an expression in normal form.
func (f forms) derivative(r Regex, c byte) Regex {
	switch r.Kind {
	case None, Empty:
		return Regex{Kind: None}
	case Range:
		if r.contains(c) {
			return Regex{Kind: Empty}
		}
		return Regex{Kind: None}
	case Cat:
		return f.afterSequence(r.Kids, c)
	case Star:
		return f.join(Cat, f.derivative(r.Kids[0], c), r)
	}
	kids := make([]Regex, 0, len(r.Kids))
	for _, k := range r.Kids {
		kids = append(kids, f.derivative(k, c))
	}
	return f.join(r.Kind, kids...)
}

// afterSequence returns the derivative of Cat of Kids: the byte is the first one of a Kid ahead of which all can be empty.
func (f forms) afterSequence(kids []Regex, c byte) Regex {
	var choices []Regex
	for i, k := range kids {
		rest := append([]Regex{f.derivative(k, c)}, kids[i+1:]...)
		choices = append(choices, f.join(Cat, rest...))
		if !nullable(k) {
			break
		}
	}
	return f.join(Alt, choices...)
}
