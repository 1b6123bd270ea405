package value

import (
	"enthymeme/api"
	"enthymeme/wire"
)

// Encode returns the bytes of a value.
func Encode(v Value) ([]byte, api.Errno) {
	if e := Valid(v); e != api.OK {
		return nil, e
	}
	var w wire.Writer
	w.Int(v.Sort.Kind)
	w.Int(v.Sort.N)
	w.Int(v.Sort.Index)
	w.Uint(v.U)
	w.Raw([]byte(v.S))
	w.Int(len(v.Map))
	for _, x := range v.Map {
		w.Uint(x.Index)
		w.Uint(x.U)
		w.Raw([]byte(x.S))
	}
	return w.Done(), api.OK
}

// Decode returns the value with these bytes.
func Decode(b []byte) (Value, api.Errno) {
	r := wire.Read(b)
	var v Value
	v.Sort.Kind = r.Int()
	v.Sort.N = r.Int()
	v.Sort.Index = r.Int()
	v.U = r.Uint()
	v.S = string(r.Raw())
	entries := r.Int()
	for range entries {
		x := readEntry(r)
		// After an error of the reader, all that it reads is 0 or empty: a forged number of entries ends here, too.
		if x.isEmpty() {
			return Value{}, api.ErrForm
		}
		v.Map = append(v.Map, x)
	}
	// A number below 0 leads to no entries, but is not what Encode writes for none.
	if entries < 0 || r.End() != api.OK || Valid(v) != api.OK {
		return Value{}, api.ErrForm
	}
	return v, api.OK
}

// readEntry reads what Encode writes of an entry.
func readEntry(r *wire.Reader) Entry {
	var x Entry
	x.Index = r.Uint()
	x.U = r.Uint()
	x.S = string(r.Raw())
	return x
}
