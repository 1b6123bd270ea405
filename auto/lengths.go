package auto

import "enthymeme/api"

// place is a state that is reached, and a string that leads there.
type place struct {
	state int
	text  string
}

// Least returns the least string of the least length that is accepted.
func Least(a Auto) (string, bool, api.Errno) {
	if e := Valid(a); e != api.OK {
		return "", false, e
	}
	// Places are reached in the order of their texts, so that of a state is the least one that leads there.
	places := []place{{}}
	reached := map[int]bool{0: true}
	for i := 0; i < len(places); i++ {
		p := places[i]
		if a.Accept[p.state] {
			return p.text, true, api.OK
		}
		for class, state := range a.Next[p.state] {
			if !reached[state] {
				reached[state] = true
				places = append(places, place{state, p.text + string([]byte{byte(a.Cuts[class])})})
			}
		}
	}
	return "", false, api.OK
}

// Lengths reports which lengths from 0 to most accepted strings have.
func Lengths(a Auto, most int) ([]bool, api.Errno) {
	return Left(a, 0, most)
}

// Left reports, for a state, which numbers of further bytes from 0 to most lead to acceptance.
func Left(a Auto, state, most int) ([]bool, api.Errno) {
	if e := Valid(a); e != api.OK {
		return nil, e
	}
	if a.lacks(state) {
		return nil, api.ErrNone
	}
	if most < 0 || most > api.MaxStr {
		return nil, api.ErrRange
	}
	left := make([]bool, 0, most+1)
	here := make([]bool, len(a.Next))
	here[state] = true
	for range most + 1 {
		left = append(left, a.acceptsOne(here))
		here = a.step(here)
	}
	return left, api.OK
}

// acceptsOne reports whether one of the states in a set is accepted.
func (a Auto) acceptsOne(set []bool) bool {
	for s, is := range set {
		if is && a.Accept[s] {
			return true
		}
	}
	return false
}

// step returns the set of the states that come next.
func (a Auto) step(set []bool) []bool {
	after := make([]bool, len(set))
	for s, is := range set {
		if is {
			for _, next := range a.Next[s] {
				after[next] = true
			}
		}
	}
	return after
}
