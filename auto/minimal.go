package auto

import "enthymeme/api"

// Minimal returns the least automaton with the same strings, its states in the order in which they are reached.
func Minimal(a Auto) (Auto, api.Errno) {
	if e := Valid(a); e != api.OK {
		return Auto{}, e
	}
	group := groups(a)
	// The first state that is reached stands for its group: for all of them the same follows.
	groupOf := func(state int) int { return group[state] }
	after := func(state, class int) (int, api.Errno) { return a.Next[state][class], api.OK }
	accepted := func(state int) bool { return a.Accept[state] }
	m, e := number(a.Cuts, 0, groupOf, after, accepted)
	return withoutIdleCuts(m), e
}

// groups returns a number for each state, the same for two of them exactly if the same strings lead from both to acceptance.
func groups(a Auto) []int {
	group, count := make([]int, len(a.Next)), 1
	for before := 0; before < count; {
		before = count
		group, count = split(a, group)
	}
	return group
}

// split returns groups of states that are alike in acceptance and in the groups of the states that come next, and how many groups there are. From groups that are alike for all strings up to a length it makes those for one byte more.
func split(a Auto, group []int) ([]int, int) {
	numbers := map[string]int{}
	finer := make([]int, 0, len(group))
	for s := range a.Next {
		k := signature(a, s, group)
		n, known := numbers[k]
		if !known {
			n = len(numbers)
			numbers[k] = n
		}
		finer = append(finer, n)
	}
	return finer, len(numbers)
}

// signature returns bytes that say whether a state is accepted, and which groups come next. There are no more groups than a byte can count.
func signature(a Auto, state int, group []int) string {
	b := []byte{0}
	if a.Accept[state] {
		b[0] = 1
	}
	for _, next := range a.Next[state] {
		b = append(b, byte(group[next]))
	}
	return string(b)
}

// withoutIdleCuts leaves out the cuts but 0 at which nothing begins.
func withoutIdleCuts(a Auto) Auto {
	less := Auto{Next: make([][]int, len(a.Next)), Accept: a.Accept}
	for class, cut := range a.Cuts {
		if class > 0 && idle(a, class) {
			continue
		}
		less.Cuts = append(less.Cuts, cut)
		for s, next := range a.Next {
			less.Next[s] = append(less.Next[s], next[class])
		}
	}
	return less
}

// idle reports whether what comes next is the same for a class as for the one before, in all states.
func idle(a Auto, class int) bool {
	for _, next := range a.Next {
		if next[class] != next[class-1] {
			return false
		}
	}
	return true
}
