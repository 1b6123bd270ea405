package eval

import (
	"cmp"
	"maps"
	"slices"

	"enthymeme/api"
	"enthymeme/term"
	"enthymeme/value"
)

// Model is the values of variables, in increasing order of the names.
type Model struct {
	Names  []string
	Values []value.Value
}

// Valid examines a model.
func Valid(m Model) api.Errno {
	if len(m.Names) != len(m.Values) {
		return api.ErrArg
	}
	for i, name := range m.Names {
		if e := examineName(name); e != api.OK {
			return e
		}
		if i > 0 && name <= m.Names[i-1] {
			return api.ErrOrder
		}
		if e := value.Valid(m.Values[i]); e != api.OK {
			return e
		}
	}
	return api.OK
}

// Complete returns the model with the values 0 for all other variables of a graph.
func Complete(g term.Graph, m Model) (Model, api.Errno) {
	if e := cmp.Or(term.Valid(g), Valid(m)); e != api.OK {
		return Model{}, e
	}
	values := map[string]value.Value{}
	for i, name := range m.Names {
		values[name] = copied(m.Values[i])
	}
	for _, i := range term.Vars(g) {
		n := g.Nodes[i]
		switch _, e := m.valueOf(n); e {
		case api.ErrSort:
			return Model{}, e
		case api.ErrNone:
			values[n.Text] = sure(value.Zero(n.Sort))
		}
	}
	var all Model
	for _, name := range slices.Sorted(maps.Keys(values)) {
		all.Names = append(all.Names, name)
		all.Values = append(all.Values, values[name])
	}
	return all, api.OK
}

// valueOf returns a value of its own for a variable.
func (m Model) valueOf(variable api.Node) (value.Value, api.Errno) {
	v, found := lookUp(m.Names, m.Values, variable.Text)
	switch {
	case !found:
		return value.Value{}, api.ErrNone
	case v.Sort != variable.Sort:
		return value.Value{}, api.ErrSort
	}
	return copied(v), api.OK
}

// lookUp returns what stands in a list at the place that a key has in the increasing list of keys.
func lookUp[K cmp.Ordered, V any](keys []K, values []V, key K) (v V, found bool) {
	at, found := slices.BinarySearch(keys, key)
	if found {
		v = values[at]
	}
	return v, found
}

// examineName returns the error of a name of a variable. Package term knows names: with a sort that is valid, nothing else can be wrong with a variable of its own.
func examineName(name string) api.Errno {
	_, e := term.SortOf(term.Graph{}, api.Node{Op: api.Var, Text: name, Sort: api.Sort{Kind: api.BV, N: 1}})
	return e
}

// copied returns a value that shares no memory.
func copied(v value.Value) value.Value {
	v.Map = append([]value.Entry(nil), v.Map...)
	return v
}
