package eval

import (
	"enthymeme/api"
	"enthymeme/value"
	"enthymeme/wire"
)

// Encode returns the bytes of a model.
func Encode(m Model) ([]byte, api.Errno) {
	if e := Valid(m); e != api.OK {
		return nil, e
	}
	var w wire.Writer
	w.Int(len(m.Names))
	for i, name := range m.Names {
		w.Raw([]byte(name))
		w.Raw(sure(value.Encode(m.Values[i])))
	}
	return w.Done(), api.OK
}

// Decode returns the model with these bytes.
func Decode(b []byte) (Model, api.Errno) {
	r := wire.Read(b)
	var m Model
	count := r.Int()
	for range count {
		name := string(r.Raw())
		v, e := value.Decode(r.Raw())
		// After an error of the reader there are no bytes, and so no value: a forged number of names ends here, too.
		if e != api.OK {
			return Model{}, api.ErrForm
		}
		m.Names = append(m.Names, name)
		m.Values = append(m.Values, v)
	}
	// A number below 0 leads to no names, but is not what Encode writes for none.
	if count < 0 || r.End() != api.OK || Valid(m) != api.OK {
		return Model{}, api.ErrForm
	}
	return m, api.OK
}
