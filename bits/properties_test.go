package bits_test

import (
	"math/rand/v2"
	"testing"

	"enthymeme/api"
	"enthymeme/bits"
)

// computer computes operations of one width and fails the test if there is an error.
type computer struct {
	t *testing.T
	w int
}

func (c computer) unary(op int, a uint64) uint64 {
	c.t.Helper()
	u, e := bits.Unary(op, a, c.w)
	if e != api.OK || bits.Valid(u, c.w) != api.OK {
		c.t.Fatalf("Unary(%d, %d, %d) is %d, %d", op, a, c.w, u, e)
	}
	return u
}

func (c computer) binary(op int, a, b uint64) uint64 {
	c.t.Helper()
	u, e := bits.Binary(op, a, b, c.w)
	if e != api.OK || bits.Valid(u, c.w) != api.OK {
		c.t.Fatalf("Binary(%d, %d, %d, %d) is %d, %d", op, a, b, c.w, u, e)
	}
	return u
}

// concat, extract and extend are the functions of P3.3, without errors.
func concat(t *testing.T, a uint64, v int, b uint64, w int) uint64 {
	t.Helper()
	u, e := bits.Concat(a, v, b, w)
	if e != api.OK {
		t.Fatalf("Concat(%d, %d, %d, %d) is %d, %d", a, v, b, w, u, e)
	}
	return u
}

func extract(t *testing.T, a uint64, w, hi, lo int) uint64 {
	t.Helper()
	u, e := bits.Extract(a, w, hi, lo)
	if e != api.OK {
		t.Fatalf("Extract(%d, %d, %d, %d) is %d, %d", a, w, hi, lo, u, e)
	}
	return u
}

func extend(t *testing.T, a uint64, w, more int, signed bool) uint64 {
	t.Helper()
	u, e := bits.Extend(a, w, more, signed)
	if e != api.OK {
		t.Fatalf("Extend(%d, %d, %d, %t) is %d, %d", a, w, more, signed, u, e)
	}
	return u
}

// pairs runs f for pairs of values of all widths.
func pairs(t *testing.T, f func(c computer, a, b uint64)) {
	for w := 1; w <= 64; w++ {
		l := values(w)
		for _, a := range l {
			for _, b := range l {
				f(computer{t, w}, a, b)
			}
		}
	}
}

// P3.5
func TestRing(t *testing.T) {
	r := rand.New(rand.NewPCG(5, 5))
	pairs(t, func(c computer, a, b uint64) {
		l := values(c.w)
		x := l[r.IntN(len(l))]
		for _, op := range []int{api.Add, api.Mul} {
			if c.binary(op, a, b) != c.binary(op, b, a) {
				t.Fatal("commutative", op, a, b, c.w)
			}
			if c.binary(op, c.binary(op, a, b), x) != c.binary(op, a, c.binary(op, b, x)) {
				t.Fatal("associative", op, a, b, x, c.w)
			}
		}
		if c.binary(api.Mul, x, c.binary(api.Add, a, b)) != c.binary(api.Add, c.binary(api.Mul, x, a), c.binary(api.Mul, x, b)) {
			t.Fatal("distributive", a, b, x, c.w)
		}
		if c.unary(api.Neg, a) != c.binary(api.Add, c.unary(api.Not, a), 1) || c.binary(api.Add, a, c.unary(api.Neg, a)) != 0 {
			t.Fatal("Neg", a, c.w)
		}
	})
}

// P3.6
func TestDivision(t *testing.T) {
	pairs(t, func(c computer, a, b uint64) {
		q, r := c.binary(api.Udiv, a, b), c.binary(api.Urem, a, b)
		p := c.binary(api.Mul, q, b)
		if c.binary(api.Add, p, r) != a {
			t.Fatal("the parts of", a, b, c.w)
		}
		if b == 0 {
			if q != top(c.w) || r != a {
				t.Fatal("by 0", a, c.w)
			}
			return
		}
		n := number(q)
		if r >= b || n.Mul(n, number(b)).Cmp(number(a)) > 0 {
			t.Fatal("a quotient or a remainder that is too great", a, b, c.w)
		}
	})
}

// P3.7
func TestShifts(t *testing.T) {
	r := rand.New(rand.NewPCG(7, 7))
	pairs(t, func(c computer, n, m uint64) {
		l := values(c.w)
		for _, a := range []uint64{1, top(c.w), l[r.IntN(len(l))]} {
			shiftedTwice(c, a, n, m)
		}
		shiftedBack(c, m, n)
	})
}

// shiftedTwice compares two shifts with one by the sum, as far as there is one.
func shiftedTwice(c computer, a, n, m uint64) {
	if m > top(c.w)-n {
		return
	}
	for _, op := range []int{api.Shl, api.Lshr} {
		if c.binary(op, c.binary(op, a, n), m) != c.binary(op, a, n+m) {
			c.t.Fatal("twice", op, a, n, m, c.w)
		}
	}
}

// shiftedBack examines what is left after a shift and its opposite, and Ashr by Lshr.
func shiftedBack(c computer, a, n uint64) {
	low := uint64(0)
	if n < uint64(c.w) {
		low = a & top(c.w-int(n))
	}
	if c.binary(api.Lshr, c.binary(api.Shl, a, n), n) != low {
		c.t.Fatal("back", a, n, c.w)
	}
	want := c.binary(api.Lshr, a, n)
	if a > top(c.w)/2 {
		want = c.unary(api.Not, c.binary(api.Lshr, c.unary(api.Not, a), n))
	}
	if c.binary(api.Ashr, a, n) != want {
		c.t.Fatal("Ashr", a, n, c.w)
	}
}

// P3.8
func TestOrder(t *testing.T) {
	pairs(t, func(c computer, a, b uint64) {
		less, more, same := c.binary(api.Ult, a, b), c.binary(api.Ult, b, a), c.binary(api.Eq, a, b)
		if less > 1 || more > 1 || same > 1 || less+more+same != 1 {
			t.Fatal("not exactly one", a, b, c.w)
		}
		half := power(c.w - 1).Uint64()
		if c.binary(api.Slt, a, b) != c.binary(api.Ult, c.binary(api.Xor, a, half), c.binary(api.Xor, b, half)) {
			t.Fatal("Slt", a, b, c.w)
		}
	})
}

// P3.9
func TestParts(t *testing.T) {
	for w := 1; w <= 64; w++ {
		for _, a := range values(w) {
			for low := 1; low < w; low++ {
				x, y := extract(t, a, w, w-1, low), extract(t, a, w, low-1, 0)
				if concat(t, x, w-low, y, low) != a {
					t.Fatal("Concat of Extract", a, w, low)
				}
			}
			if extract(t, a, w, w-1, 0) != a {
				t.Fatal("the whole", a, w)
			}
			for more := 1; more <= 64-w; more++ {
				for _, signed := range []bool{false, true} {
					if extract(t, extend(t, a, w, more, signed), w+more, w-1, 0) != a {
						t.Fatal("Extract of Extend", a, w, more, signed)
					}
				}
			}
		}
	}
}

// P3.9
func TestPartsOfConcat(t *testing.T) {
	for v := 1; v < 64; v++ {
		for w := 1; w <= 64-v; w++ {
			for _, a := range []uint64{0, 1, top(v) / 2, top(v) - 1, top(v)} {
				for _, b := range []uint64{0, 1, top(w) / 2, top(w) - 1, top(w)} {
					u := concat(t, a, v, b, w)
					if extract(t, u, v+w, v+w-1, w) != a || extract(t, u, v+w, w-1, 0) != b {
						t.Fatal("Extract of Concat", a, v, b, w)
					}
				}
			}
		}
	}
}

// P3.10
func TestBack(t *testing.T) {
	for w := 1; w <= 64; w++ {
		for _, u := range values(w) {
			s, e := bits.Text(u, w)
			if e != api.OK {
				t.Fatal(u, w, e)
			}
			if n, x, e := bits.Parse(s); n != u || x != w || e != api.OK {
				t.Fatalf("Parse(%q) is %d, %d, %d, want %d, %d", s, n, x, e, u, w)
			}
		}
	}
}

// The chapter's examples.
func TestExamples(t *testing.T) {
	c := computer{t, 4}
	if c.binary(api.Add, 9, 9) != 2 || c.binary(api.Ashr, 9, 1) != 12 || c.binary(api.Udiv, 9, 0) != 15 || c.binary(api.Slt, 9, 1) != 1 {
		t.Error("the width 4")
	}
	if s, e := bits.Text(9, 4); s != "#x9" || e != api.OK {
		t.Error(s, e)
	}
	if s, e := bits.Text(9, 5); s != "#b01001" || e != api.OK {
		t.Error(s, e)
	}
}
