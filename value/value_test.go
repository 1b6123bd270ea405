package value_test

import (
	"math"
	"math/rand/v2"
	"slices"
	"strings"
	"testing"

	"enthymeme/api"
	"enthymeme/value"
)

// P6.1: all sorts with numbers near the limits; the least and the greatest N and Index are written out.
func TestValidSort(t *testing.T) {
	type limits struct{ leastN, mostN, leastIndex, mostIndex int }
	kinds := map[int]limits{
		0: {1, 64, 0, 0},
		1: {0, 64, 0, 0},
		2: {1, 64, 1, 16},
		3: {0, 64, 1, 16},
	}
	numbers := []int{math.MinInt, math.MinInt + 1, -256, -64, 127, 128, 255, 256, 257, 1 << 32, math.MaxInt - 1, math.MaxInt}
	for n := -5; n < 70; n++ {
		numbers = append(numbers, n)
	}
	valid := 0
	for _, kind := range append([]int{math.MinInt, math.MaxInt, 256, 1 << 32}, -2, -1, 0, 1, 2, 3, 4, 5, 6) {
		l, known := kinds[kind]
		for _, n := range numbers {
			for _, index := range numbers {
				want := api.ErrSort
				if known && l.leastN <= n && n <= l.mostN && l.leastIndex <= index && index <= l.mostIndex {
					want = api.OK
					valid++
				}
				s := S{Kind: kind, N: n, Index: index}
				if e := value.ValidSort(s); e != want {
					t.Fatalf("%v: error %d, not %d", s, e, want)
				}
				v, e := value.Zero(s)
				if e != want || want == api.OK && !same(v, V{Sort: s}) || want != api.OK && !zero(v) {
					t.Fatalf("%v: Zero is %v, %d, not with %d", s, v, e, want)
				}
				if want == api.OK && value.Valid(v) != api.OK {
					t.Fatalf("%v: Zero is not valid", s)
				}
				if e := value.Valid(V{Sort: s}); e != want {
					t.Fatalf("%v: error %d of the value, not %d", s, e, want)
				}
			}
		}
	}
	if valid != 64+65+64*16+65*16 {
		t.Errorf("%d sorts are valid", valid)
	}
}

// validValues are valid.
func validValues() []V {
	long := strings.Repeat("\xff", 64)
	return []V{
		bv(1, 0), bv(1, 1), bv(2, 3), bv(8, 255), bv(32, 1<<32-1), bv(63, 1<<63-1), bv(64, 0), bv(64, 1<<63), bv(64, math.MaxUint64),
		str(0, ""), str(1, ""), str(1, "\x00"), str(1, "\xff"), str(2, "é"), str(3, "ab"), str(63, long[1:]), str(64, ""), str(64, long),
		arr(1, 1), arr(1, 1, E{0, 1, ""}), arr(1, 1, E{1, 1, ""}), arr(1, 1, E{0, 1, ""}, E{1, 1, ""}), arr(8, 2, E{3, 255, ""}), arr(8, 2, E{0, 1, ""}, E{2, 2, ""}, E{3, 3, ""}), arr(64, 16, E{0, math.MaxUint64, ""}, E{65535, 1, ""}), arr(63, 15, E{32767, 1<<63 - 1, ""}), full(api.Arr),
		ars(0, 1), ars(0, 16), ars(1, 1, E{0, 0, "\x00"}, E{1, 0, "a"}), ars(2, 3, E{6, 0, "ab"}, E{7, 0, "b"}), ars(64, 16, E{0, 0, long}, E{65535, 0, "x"}), full(api.Ars),
		{Sort: S{Kind: api.BV, N: 5}, Map: []E{}}, {Sort: S{Kind: api.Str, N: 5}, Map: []E{}}, {Sort: S{Kind: api.Arr, N: 5, Index: 5}, Map: []E{}}, {Sort: S{Kind: api.Ars, N: 5, Index: 5}, Map: []E{}},
	}
}

// invalidValues are values that are not valid, and the errors of Valid for them.
func invalidValues() map[string]struct {
	v    V
	want api.Errno
} {
	type row = struct {
		v    V
		want api.Errno
	}
	long := strings.Repeat("a", 65)
	one := E{Index: 1, U: 1}
	text := E{Index: 1, S: "a"}
	with := func(v V, u uint64, s string, l ...E) V {
		v.U, v.S, v.Map = u, s, l
		return v
	}
	late, lateText := full(api.Arr), full(api.Ars)
	late.Map[65535].Index = 65536
	lateText.Map[65535].S = ""
	twice := full(api.Arr)
	twice.Map[40000].Index = 39999
	return map[string]row{
		"zero":                         {V{}, api.ErrSort},
		"no kind -1":                   {V{Sort: S{Kind: -1, N: 1}}, api.ErrSort},
		"no kind 4":                    {V{Sort: S{Kind: 4, N: 1, Index: 1}}, api.ErrSort},
		"no bits":                      {bv(0, 0), api.ErrSort},
		"65 bits":                      {bv(65, 0), api.ErrSort},
		"-1 bits":                      {bv(-1, 0), api.ErrSort},
		"a bit-vector with Index":      {V{Sort: S{Kind: api.BV, N: 1, Index: 1}}, api.ErrSort},
		"strings of -1 bytes":          {str(-1, ""), api.ErrSort},
		"strings of 65 bytes":          {str(65, long), api.ErrSort},
		"a string with Index":          {V{Sort: S{Kind: api.Str, N: 1, Index: 1}}, api.ErrSort},
		"an array of no bits":          {arr(0, 1), api.ErrSort},
		"an array of 65 bits":          {arr(65, 1, E{0, 1, ""}), api.ErrSort},
		"an array without indices":     {arr(1, 0), api.ErrSort},
		"17 bits of an index":          {arr(1, 17), api.ErrSort},
		"texts without indices":        {ars(1, 0), api.ErrSort},
		"texts with 17 bits":           {ars(1, 17, text), api.ErrSort},
		"texts of 65 bytes":            {ars(65, 1), api.ErrSort},
		"texts of -1 bytes":            {ars(-1, 1), api.ErrSort},
		"a wrong sort before all else": {V{Sort: S{Kind: api.BV, N: 65}, U: 1, S: "a", Map: []E{{}}}, api.ErrSort},
		"a bit too many":               {bv(1, 2), api.ErrArg},
		"a bit too many of 8":          {bv(8, 256), api.ErrArg},
		"a bit too many of 63":         {bv(63, 1<<63), api.ErrArg},
		"the greatest number":          {bv(63, math.MaxUint64), api.ErrArg},
		"a bit-vector with S":          {with(bv(8, 0), 1, "a"), api.ErrArg},
		"a bit-vector with Map":        {with(bv(8, 0), 1, "", one), api.ErrArg},
		"a bit-vector with an entry 0": {with(bv(8, 0), 1, "", E{}), api.ErrArg},
		"a string too long":            {str(1, "ab"), api.ErrArg},
		"a string of none":             {str(0, "\x00"), api.ErrArg},
		"a string of 65":               {str(64, long), api.ErrArg},
		"two bytes are no rune":        {str(1, "é"), api.ErrArg},
		"a string with U":              {with(str(8, ""), 1, "a"), api.ErrArg},
		"a string with Map":            {with(str(8, ""), 0, "a", text), api.ErrArg},
		"a string with an entry 0":     {with(str(8, ""), 0, "a", E{}), api.ErrArg},
		"an array with U":              {with(arr(8, 8), 1, "", one), api.ErrArg},
		"an array with S":              {with(arr(8, 8), 0, "a", one), api.ErrArg},
		"an array with U alone":        {with(arr(8, 8), 1, ""), api.ErrArg},
		"an array with S alone":        {with(arr(8, 8), 0, "a"), api.ErrArg},
		"texts with U":                 {with(ars(8, 8), 1, "", text), api.ErrArg},
		"texts with S":                 {with(ars(8, 8), 0, "a", text), api.ErrArg},
		"texts with U alone":           {with(ars(8, 8), 1, ""), api.ErrArg},
		"texts with S alone":           {with(ars(8, 8), 0, "a"), api.ErrArg},
		"an entry 0":                   {arr(8, 2, E{3, 0, ""}), api.ErrArg},
		"an entry all 0":               {arr(8, 2, E{}), api.ErrArg},
		"an entry 0 at the end":        {arr(8, 2, one, E{3, 0, ""}), api.ErrArg},
		"an entry 0 at the beginning":  {arr(8, 2, E{}, one), api.ErrArg},
		"an entry too great":           {arr(8, 2, E{3, 256, ""}), api.ErrArg},
		"an entry too great, at last":  {arr(8, 2, one, E{3, 256, ""}), api.ErrArg},
		"an entry with S":              {arr(8, 2, E{3, 1, "a"}), api.ErrArg},
		"an entry with S alone":        {arr(8, 2, text), api.ErrArg},
		"an index too great":           {arr(8, 2, E{4, 1, ""}), api.ErrArg},
		"an index of 2^16":             {arr(8, 16, E{65536, 1, ""}), api.ErrArg},
		"the greatest index":           {arr(8, 16, one, E{math.MaxUint64, 1, ""}), api.ErrArg},
		"an index twice":               {arr(8, 2, one, one), api.ErrArg},
		"an index twice, two values":   {arr(8, 2, E{3, 1, ""}, E{3, 2, ""}), api.ErrArg},
		"indices decrease":             {arr(8, 2, E{3, 1, ""}, E{2, 1, ""}), api.ErrArg},
		"indices decrease at last":     {arr(8, 2, E{0, 1, ""}, E{3, 1, ""}, E{2, 1, ""}), api.ErrArg},
		"indices decrease at first":    {arr(8, 2, E{2, 1, ""}, E{1, 1, ""}, E{3, 1, ""}), api.ErrArg},
		"an empty text":                {ars(8, 2, E{3, 0, ""}), api.ErrArg},
		"an empty text at the end":     {ars(8, 2, text, E{3, 0, ""}), api.ErrArg},
		"a text of none":               {ars(0, 2, E{0, 0, "a"}), api.ErrArg},
		"an empty text of none":        {ars(0, 2, E{0, 0, ""}), api.ErrArg},
		"a text too long":              {ars(2, 2, E{0, 0, "abc"}), api.ErrArg},
		"a text of 65":                 {ars(64, 2, E{0, 0, long}), api.ErrArg},
		"a text with U":                {ars(2, 2, E{0, 1, "ab"}), api.ErrArg},
		"a text with U alone":          {ars(2, 2, one), api.ErrArg},
		"a text's index too great":     {ars(2, 1, E{2, 0, "ab"}), api.ErrArg},
		"a text's index twice":         {ars(2, 2, text, text), api.ErrArg},
		"texts' indices decrease":      {ars(2, 2, E{3, 0, "b"}, text), api.ErrArg},
		"65536 entries, the last off":  {late, api.ErrArg},
		"65536 texts, the last empty":  {lateText, api.ErrArg},
		"65536 entries, one twice":     {twice, api.ErrArg},
		"65537 entries":                {arr(64, 16, append(full(api.Arr).Map, E{65535, 1, ""})...), api.ErrArg},
	}
}

// P6.1
func TestValid(t *testing.T) {
	for i, v := range validValues() {
		if e := value.Valid(v); e != api.OK {
			t.Errorf("%d: error %d", i, e)
		}
	}
	for name, x := range invalidValues() {
		if e := value.Valid(x.v); e != x.want {
			t.Errorf("%s: error %d, not %d", name, e, x.want)
		}
	}
}

// P6.1: all bit-vectors and strings near the limit of each N.
func TestValidWidths(t *testing.T) {
	for n := 1; n <= 64; n++ {
		greatest := uint64(math.MaxUint64)
		if n < 64 {
			greatest = power(n) - 1
			for _, v := range []V{bv(n, greatest+1), arr(n, 1, E{0, greatest + 1, ""})} {
				if e := value.Valid(v); e != api.ErrArg {
					t.Errorf("%v: error %d", v, e)
				}
			}
		}
		long := strings.Repeat("a", n)
		for _, v := range []V{bv(n, greatest), arr(n, 1, E{0, greatest, ""}), str(n, long), ars(n, 1, E{1, 0, long})} {
			if e := value.Valid(v); e != api.OK {
				t.Errorf("%v: error %d", v, e)
			}
		}
		for _, v := range []V{str(n, long+"a"), ars(n, 1, E{1, 0, long + "a"}), str(n-1, long), ars(n-1, 1, E{1, 0, long})} {
			if e := value.Valid(v); e != api.ErrArg {
				t.Errorf("%v: error %d", v, e)
			}
		}
	}
	for index := 1; index <= 16; index++ {
		last := power(index) - 1
		for _, x := range []struct {
			index uint64
			want  api.Errno
		}{{last, api.OK}, {last + 1, api.ErrArg}} {
			for _, v := range []V{arr(1, index, E{x.index, 1, ""}), ars(1, index, E{x.index, 0, "a"})} {
				if e := value.Valid(v); e != x.want {
					t.Errorf("%v: error %d, not %d", v, e, x.want)
				}
			}
		}
	}
}

// P6.1 and P6.6: the error comes first, and with it zero values.
func TestInvalidEverywhere(t *testing.T) {
	element, array := bv(8, 1), arr(8, 2)
	for name, x := range invalidValues() {
		for _, index := range []uint64{0, 1, math.MaxUint64} {
			if v, e := value.Select(x.v, index); !zero(v) || e != x.want {
				t.Errorf("%s: Select is %v, %d", name, v, e)
			}
			if v, e := value.Store(x.v, index, element); !zero(v) || e != x.want {
				t.Errorf("%s: Store, in it, is %v, %d", name, v, e)
			}
			for _, a := range []V{array, element, ars(8, 2), str(1, "a")} {
				if v, e := value.Store(a, index, x.v); !zero(v) || e != x.want {
					t.Errorf("%s: Store, of it, is %v, %d", name, v, e)
				}
			}
		}
		for _, a := range []V{array, element, ars(8, 2), str(1, "a")} {
			if i, e := value.Diff(x.v, a); i != 0 || e != x.want {
				t.Errorf("%s: Diff, ahead, is %d, %d", name, i, e)
			}
			if i, e := value.Diff(a, x.v); i != 0 || e != x.want {
				t.Errorf("%s: Diff, behind, is %d, %d", name, i, e)
			}
		}
		if i, e := value.Diff(x.v, x.v); i != 0 || e != x.want {
			t.Errorf("%s: Diff with itself is %d, %d", name, i, e)
		}
		if b, e := value.Encode(x.v); len(b) != 0 || e != x.want {
			t.Errorf("%s: Encode is %v, %d", name, b, e)
		}
	}
	noSort, noValue := bv(0, 0), bv(1, 2)
	for _, x := range []struct {
		a, b V
		want api.Errno
	}{{noSort, noValue, api.ErrSort}, {noValue, noSort, api.ErrArg}} {
		if v, e := value.Store(x.a, 0, x.b); !zero(v) || e != x.want {
			t.Errorf("Store of %v in %v is %v, %d", x.b, x.a, v, e)
		}
		if i, e := value.Diff(x.a, x.b); i != 0 || e != x.want {
			t.Errorf("Diff of %v and %v is %d, %d", x.a, x.b, i, e)
		}
	}
}

// increasing are values, also such that are not valid, in increasing order.
func increasing() []V {
	sort := func(kind, n, index int) V { return V{Sort: S{Kind: kind, N: n, Index: index}} }
	at := func(u uint64, s string, l ...E) V { return V{U: u, S: s, Map: l} }
	return []V{
		sort(math.MinInt, math.MaxInt, math.MaxInt), sort(-1, 5, 5),
		sort(0, math.MinInt, 0), sort(0, -1, 9), sort(0, 0, -1),
		// All of the sort of the zero value.
		at(0, ""),
		at(0, "", E{}), at(0, "", E{}, E{}), at(0, "", E{}, E{0, 0, "a"}), at(0, "", E{}, E{1, 0, ""}),
		at(0, "", E{0, 0, "\x00"}), at(0, "", E{0, 0, "a"}), at(0, "", E{0, 0, "a"}, E{}), at(0, "", E{0, 0, "a\x00"}), at(0, "", E{0, 0, "aa"}), at(0, "", E{0, 0, "b"}), at(0, "", E{0, 0, "\xff"}),
		at(0, "", E{0, 1, ""}), at(0, "", E{0, 1, ""}, E{}), at(0, "", E{0, 1, ""}, E{0, 0, "a"}), at(0, "", E{0, 1, ""}, E{7, 7, "a"}), at(0, "", E{0, 1, ""}, E{7, 7, "a"}, E{}), at(0, "", E{0, 1, "a"}), at(0, "", E{0, 2, ""}), at(0, "", E{0, 10, ""}), at(0, "", E{0, math.MaxUint64, ""}),
		at(0, "", E{1, 0, ""}), at(0, "", E{1, 0, ""}, E{0, 9, "z"}), at(0, "", E{1, 0, "a"}), at(0, "", E{1, 1, ""}), at(0, "", E{2, 0, ""}), at(0, "", E{10, 0, ""}), at(0, "", E{math.MaxUint64, 0, ""}),
		at(0, "\x00"), at(0, "\x00\x00"), at(0, "A"), at(0, "Z", E{9, 9, "z"}), at(0, "a"), at(0, "a", E{}), at(0, "a\x00"), at(0, "aa"), at(0, "ab"), at(0, "b"), at(0, "\x7f"), at(0, "\x80"), at(0, "\xff"),
		at(1, ""), at(1, "", E{}), at(1, "a"), at(2, ""), at(10, ""), at(math.MaxInt64, "z"), at(math.MaxInt64+1, ""), at(math.MaxUint64, "", E{5, 5, "a"}), at(math.MaxUint64, "a"),
		sort(0, 0, 1), {Sort: S{Kind: 0, N: 0, Index: 1}, U: 1}, sort(0, 0, 10), sort(0, 0, math.MaxInt),
		// Valid ones.
		bv(1, 0), bv(1, 1), sort(0, 1, 1), bv(2, 0), bv(2, 2), bv(2, 3), bv(10, 0), bv(64, 5), bv(64, math.MaxUint64),
		str(0, ""), str(1, ""), str(1, "\x00"), str(1, "b"), str(2, ""), str(2, "a"), str(2, "ab"), str(2, "b"), str(2, "ba"), str(2, "\xff"), str(10, ""),
		arr(1, 1), arr(1, 1, E{0, 1, ""}), arr(1, 1, E{0, 1, ""}, E{1, 1, ""}), arr(1, 1, E{1, 1, ""}), arr(1, 2), arr(1, 16), arr(2, 1), arr(2, 1, E{0, 1, ""}), arr(2, 1, E{0, 1, ""}, E{1, 3, ""}), arr(2, 1, E{0, 2, ""}), arr(2, 1, E{1, 1, ""}),
		ars(0, 1), ars(1, 1), ars(1, 1, E{0, 0, "a"}), ars(1, 1, E{0, 0, "a"}, E{1, 0, "a"}), ars(1, 1, E{0, 0, "a"}, E{1, 0, "b"}), ars(1, 1, E{0, 0, "b"}), ars(1, 1, E{1, 0, "a"}), ars(1, 2), ars(2, 1),
		sort(4, 0, 0), sort(math.MaxInt, math.MinInt, math.MinInt), sort(math.MaxInt, math.MaxInt, math.MaxInt),
	}
}

// P6.2
func TestCompare(t *testing.T) {
	l := increasing()
	for i, a := range l {
		for k, b := range l {
			want := 0
			if i < k {
				want = -1
			}
			if i > k {
				want = 1
			}
			if got := value.Compare(copied(a), copied(b)); got != want {
				t.Errorf("%d and %d: %d, not %d: %v, %v", i, k, got, want, a, b)
			}
		}
	}
	if value.Compare(bv(1, 0), V{Sort: S{Kind: api.BV, N: 1}, Map: []E{}}) != 0 {
		t.Error("no entries are not equal to an empty list of them")
	}
	a, b := full(api.Ars), full(api.Ars)
	if n := value.Compare(a, b); n != 0 {
		t.Errorf("two arrays of 65536 strings: %d", n)
	}
	b.Map[65535].S = "\x00"
	if n := value.Compare(a, b); n != 1 {
		t.Errorf("the last one of 65536 strings is less: %d", n)
	}
	if n := value.Compare(V{Map: b.Map[:65535]}, V{Map: b.Map}); n != -1 {
		t.Errorf("the last one of 65536 strings is missing: %d", n)
	}
}

// before is what the chapter says of the order of lists of entries, word by word: a beginning first, and otherwise the first entries that differ.
func before(a, b []E) bool {
	switch {
	case len(b) == 0:
		return false
	case len(a) == 0:
		return true
	case a[0].Index != b[0].Index:
		return a[0].Index < b[0].Index
	case a[0].U != b[0].U:
		return a[0].U < b[0].U
	case a[0].S != b[0].S:
		return a[0].S < b[0].S
	}
	return before(a[1:], b[1:])
}

// less is what the chapter says of the order of values.
func less(a, b V) bool {
	switch {
	case a.Sort.Kind != b.Sort.Kind:
		return a.Sort.Kind < b.Sort.Kind
	case a.Sort.N != b.Sort.N:
		return a.Sort.N < b.Sort.N
	case a.Sort.Index != b.Sort.Index:
		return a.Sort.Index < b.Sort.Index
	case a.U != b.U:
		return a.U < b.U
	case a.S != b.S:
		return a.S < b.S
	}
	return before(a.Map, b.Map)
}

// alike returns a value, valid or not, with few possibilities for each field, so that many are equal in some of them.
func alike(r *rand.Rand) V {
	few := []string{"", "\x00", "a", "a\x00", "ab", "b", "\xff"}
	v := V{Sort: S{Kind: r.IntN(2), N: r.IntN(2), Index: r.IntN(2)}, U: r.Uint64N(2), S: few[r.IntN(len(few))]}
	if r.IntN(3) > 0 {
		v = V{}
	}
	for range r.IntN(4) {
		v.Map = append(v.Map, E{Index: r.Uint64N(2), U: r.Uint64N(2), S: few[r.IntN(len(few))]})
	}
	return v
}

// P6.2 and P6.9: values at random, valid or not, against the chapter's words.
func TestCompareAtRandom(t *testing.T) {
	r := rand.New(rand.NewPCG(6, 2))
	equal := 0
	for range 200000 {
		a, b := alike(r), alike(r)
		want := 0
		switch {
		case less(a, b):
			want = -1
		case less(b, a):
			want = 1
		default:
			equal++
		}
		keptA, keptB := copied(a), copied(b)
		if n, back := value.Compare(a, b), value.Compare(b, a); n != want || back != -want {
			t.Fatalf("%v and %v: %d and back %d, not %d", a, b, n, back, want)
		}
		if !same(a, keptA) || !same(b, keptB) {
			t.Fatalf("%v and %v have become %v and %v", keptA, keptB, a, b)
		}
		if (want == 0) != same(a, b) {
			t.Fatalf("%v and %v: %d", a, b, want)
		}
	}
	if equal < 1000 {
		t.Errorf("only %d pairs were equal", equal)
	}
}

// P6.9: values in the order of Compare are so in all pairs.
func TestTotalOrder(t *testing.T) {
	r := rand.New(rand.NewPCG(6, 9))
	var l []V
	for range 300 {
		l = append(l, alike(r), randomValue(r, randomSort(r)))
	}
	for _, s := range smallSorts() {
		all := every(s)
		l = append(l, all[:min(len(all), 20)]...)
	}
	slices.SortFunc(l, value.Compare)
	first := 0 // of those that are equal to the one before
	for i := range l {
		if i > 0 && value.Compare(l[i-1], l[i]) != 0 {
			first = i
		}
		for k := range l[:i+1] {
			want := -1
			if k >= first {
				want = 0
			}
			if n := value.Compare(l[k], l[i]); n != want {
				t.Fatalf("%d and %d: %d, not %d: %v, %v", k, i, n, want, l[k], l[i])
			}
			if n := value.Compare(l[i], l[k]); n != -want {
				t.Fatalf("%d and %d: %d, not %d: %v, %v", i, k, n, -want, l[i], l[k])
			}
		}
	}
}
