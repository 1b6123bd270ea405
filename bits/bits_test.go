package bits_test

import (
	"math"
	"math/big"
	"math/rand/v2"
	"slices"
	"strconv"
	"strings"
	"testing"

	"enthymeme/api"
	"enthymeme/bits"
)

// most is the greatest value of the width 64.
const most = math.MaxUint64

// unaries and binaries are the operations of both functions, written out so that none can be forgotten.
var (
	unaries  = []int{api.Not, api.Neg}
	binaries = []int{api.And, api.Or, api.Xor, api.Add, api.Mul, api.Udiv, api.Urem, api.Shl, api.Lshr, api.Ashr, api.Ult, api.Slt, api.Eq}
)

// badWidths are no widths.
var badWidths = []int{math.MinInt, -64, -1, 0, 65, 128, 1 << 32, 1<<32 + 8, math.MaxInt}

// power returns 2^n.
func power(n int) *big.Int {
	return new(big.Int).Lsh(big.NewInt(1), uint(n))
}

// number returns a value as a number without limits.
func number(u uint64) *big.Int {
	return new(big.Int).SetUint64(u)
}

// signed returns the signed value, as the chapter defines it.
func signed(u uint64, w int) *big.Int {
	n := number(u)
	if n.Bit(w-1) == 1 {
		n.Sub(n, power(w))
	}
	return n
}

// modulo returns the value of the width w that a number is, modulo 2^w.
func modulo(n *big.Int, w int) uint64 {
	return new(big.Int).Mod(n, power(w)).Uint64()
}

// top returns the greatest value of the width w.
func top(w int) uint64 {
	return new(big.Int).Sub(power(w), big.NewInt(1)).Uint64()
}

// bitwise computes an operation bit by bit.
func bitwise(a, b uint64, w int, bit func(x, y uint) bool) uint64 {
	n := new(big.Int)
	for i := range w {
		if bit(number(a).Bit(i), number(b).Bit(i)) {
			n.Add(n, power(i))
		}
	}
	return n.Uint64()
}

// one returns a truth value as a bit.
func one(b bool) uint64 {
	if b {
		return 1
	}
	return 0
}

// expected computes the operations with numbers without limits, as the chapter's table says.
func expected(op int, a, b uint64, w int) uint64 {
	x, y, n := number(a), number(b), new(big.Int)
	far := y.Cmp(big.NewInt(int64(w))) >= 0 // shifted by at least w
	switch op {
	case api.Not:
		return modulo(n.Sub(n.Sub(power(w), big.NewInt(1)), x), w)
	case api.Neg:
		return modulo(n.Neg(x), w)
	case api.And:
		return bitwise(a, b, w, func(x, y uint) bool { return x == 1 && y == 1 })
	case api.Or:
		return bitwise(a, b, w, func(x, y uint) bool { return x == 1 || y == 1 })
	case api.Xor:
		return bitwise(a, b, w, func(x, y uint) bool { return x != y })
	case api.Add:
		return modulo(n.Add(x, y), w)
	case api.Mul:
		return modulo(n.Mul(x, y), w)
	case api.Udiv:
		if b == 0 {
			return top(w)
		}
		return modulo(n.Div(x, y), w)
	case api.Urem:
		if b == 0 {
			return a
		}
		return modulo(n.Mod(x, y), w)
	case api.Shl:
		if far {
			return 0
		}
		return modulo(n.Mul(x, power(int(b))), w)
	case api.Lshr:
		if far {
			return 0
		}
		return modulo(n.Div(x, power(int(b))), w)
	case api.Ashr: // a divisor of 2^w is enough: from there on, the quotient is 0 or -1
		s := w
		if !far {
			s = int(b)
		}
		return modulo(n.Div(signed(a, w), power(s)), w)
	case api.Ult:
		return one(x.Cmp(y) < 0)
	case api.Slt:
		return one(signed(a, w).Cmp(signed(b, w)) < 0)
	}
	return one(x.Cmp(y) == 0)
}

// values returns all values of a small width, and of a large one those at which something changes, and others.
func values(w int) []uint64 {
	var l []uint64
	if w <= 5 {
		for u := range uint64(1) << w {
			l = append(l, u)
		}
		return l
	}
	half := power(w - 1).Uint64()
	l = []uint64{0, 1, 2, 3, uint64(w) - 1, uint64(w), uint64(w) + 1, half - 1, half, half + 1, top(w) - 1, top(w), 63 & top(w), 64 & top(w), 65 & top(w), 0x5555555555555555 & top(w), 1 << 32 & top(w)}
	r := rand.New(rand.NewPCG(3, uint64(w)))
	for range 10 {
		l = append(l, r.Uint64()&top(w), r.Uint64()&top(w)>>r.IntN(w))
	}
	slices.Sort(l)
	return slices.Compact(l)
}

// P3.1: for all widths, the greatest value and those around it.
func TestValid(t *testing.T) {
	for w := 1; w <= 64; w++ {
		for _, u := range append(values(w), 0, 1, top(w)) {
			if e := bits.Valid(u, w); e != api.OK {
				t.Errorf("Valid(%d, %d) is %d", u, w, e)
			}
		}
		for x := w; x < 64; x++ {
			for _, u := range []uint64{1 << x, 1<<x + 1, 1<<63 | 1<<x, most} {
				if e := bits.Valid(u, w); e != api.ErrRange {
					t.Errorf("Valid(%d, %d) is %d, want ErrRange", u, w, e)
				}
			}
		}
	}
}

// P3.1: a width that is none comes first, whatever the number.
func TestValidWidths(t *testing.T) {
	for _, w := range badWidths {
		for _, u := range []uint64{0, 1, 2, 1 << 63, most} {
			if e := bits.Valid(u, w); e != api.ErrArg {
				t.Errorf("Valid(%d, %d) is %d, want ErrArg", u, w, e)
			}
		}
	}
}

// P3.2: results that were written out by hand.
func TestUnaryKnown(t *testing.T) {
	for _, c := range []struct {
		op   int
		a    uint64
		w    int
		want uint64
	}{
		{api.Not, 0, 1, 1},
		{api.Not, 1, 1, 0},
		{api.Not, 9, 4, 6},
		{api.Not, 0, 63, 1<<63 - 1},
		{api.Not, 0, 64, most},
		{api.Not, most, 64, 0},
		{api.Neg, 0, 1, 0},
		{api.Neg, 1, 1, 1},
		{api.Neg, 0, 4, 0},
		{api.Neg, 1, 4, 15},
		{api.Neg, 8, 4, 8},
		{api.Neg, 9, 4, 7},
		{api.Neg, 1, 64, most},
		{api.Neg, 1 << 63, 64, 1 << 63},
		{api.Neg, most, 64, 1},
	} {
		if u, e := bits.Unary(c.op, c.a, c.w); u != c.want || e != api.OK {
			t.Errorf("Unary(%d, %d, %d) is %d, %d, want %d", c.op, c.a, c.w, u, e, c.want)
		}
	}
}

// P3.2: results that were written out by hand: overflows, divisors 0, far shifts, signs.
func TestBinaryKnown(t *testing.T) {
	for _, c := range []struct {
		op   int
		a, b uint64
		w    int
		want uint64
	}{
		{api.And, 12, 10, 4, 8},
		{api.Or, 12, 10, 4, 14},
		{api.Xor, 12, 10, 4, 6},
		{api.And, most, 1 << 63, 64, 1 << 63},
		{api.Xor, most, 1, 64, most - 1},
		{api.Add, 9, 9, 4, 2},
		{api.Add, 15, 1, 4, 0},
		{api.Add, 1, 1, 1, 0},
		{api.Add, most, 2, 64, 1},
		{api.Mul, 5, 7, 4, 3},
		{api.Mul, 8, 2, 4, 0},
		{api.Mul, 1 << 32, 1 << 32, 64, 0},
		{api.Mul, most, most, 64, 1},
		{api.Udiv, 13, 4, 4, 3},
		{api.Udiv, 3, 4, 4, 0},
		{api.Udiv, 9, 0, 4, 15},
		{api.Udiv, 0, 0, 1, 1},
		{api.Udiv, 5, 0, 64, most},
		{api.Udiv, most, 1 << 63, 64, 1},
		{api.Urem, 13, 4, 4, 1},
		{api.Urem, 3, 4, 4, 3},
		{api.Urem, 9, 0, 4, 9},
		{api.Urem, 12, 4, 4, 0},
		{api.Urem, most, 0, 64, most},
		{api.Urem, most, 1 << 63, 64, 1<<63 - 1},
		{api.Shl, 9, 0, 4, 9},
		{api.Shl, 9, 1, 4, 2},
		{api.Shl, 9, 3, 4, 8},
		{api.Shl, 9, 4, 4, 0},
		{api.Shl, 15, 15, 4, 0},
		{api.Shl, 1, 63, 64, 1 << 63},
		{api.Shl, most, 64, 64, 0},
		{api.Shl, most, 1 << 63, 64, 0},
		{api.Shl, most, 1 << 32, 64, 0},
		{api.Lshr, 9, 0, 4, 9},
		{api.Lshr, 9, 1, 4, 4},
		{api.Lshr, 9, 3, 4, 1},
		{api.Lshr, 9, 4, 4, 0},
		{api.Lshr, most, 63, 64, 1},
		{api.Lshr, most, 64, 64, 0},
		{api.Lshr, most, most, 64, 0},
		{api.Ashr, 9, 0, 4, 9},
		{api.Ashr, 9, 1, 4, 12},
		{api.Ashr, 9, 3, 4, 15},
		{api.Ashr, 9, 4, 4, 15},
		{api.Ashr, 7, 1, 4, 3},
		{api.Ashr, 7, 4, 4, 0},
		{api.Ashr, 1, 1, 1, 1},
		{api.Ashr, 1 << 63, 63, 64, most},
		{api.Ashr, 1 << 63, 64, 64, most},
		{api.Ashr, 1 << 63, most, 64, most},
		{api.Ashr, 1<<63 - 1, most, 64, 0},
		{api.Ult, 1, 9, 4, 1},
		{api.Ult, 9, 1, 4, 0},
		{api.Ult, 9, 9, 4, 0},
		{api.Ult, 1<<63 - 1, 1 << 63, 64, 1},
		{api.Slt, 9, 1, 4, 1},
		{api.Slt, 1, 9, 4, 0},
		{api.Slt, 9, 9, 4, 0},
		{api.Slt, 8, 15, 4, 1},
		{api.Slt, 1, 0, 1, 1},
		{api.Slt, 1 << 63, 1<<63 - 1, 64, 1},
		{api.Eq, 9, 9, 4, 1},
		{api.Eq, 9, 1, 4, 0},
		{api.Eq, most, most, 64, 1},
	} {
		if u, e := bits.Binary(c.op, c.a, c.b, c.w); u != c.want || e != api.OK {
			t.Errorf("Binary(%d, %d, %d, %d) is %d, %d, want %d", c.op, c.a, c.b, c.w, u, e, c.want)
		}
	}
}

// P3.2: all operations and widths, against numbers without limits.
func TestOperations(t *testing.T) {
	for w := 1; w <= 64; w++ {
		l := values(w)
		for _, a := range l {
			for _, op := range unaries {
				if u, e := bits.Unary(op, a, w); u != expected(op, a, 0, w) || e != api.OK {
					t.Fatalf("Unary(%d, %d, %d) is %d, %d", op, a, w, u, e)
				}
			}
			for _, b := range l {
				for _, op := range binaries {
					if u, e := bits.Binary(op, a, b, w); u != expected(op, a, b, w) || e != api.OK {
						t.Fatalf("Binary(%d, %d, %d, %d) is %d, %d", op, a, b, w, u, e)
					}
				}
			}
		}
	}
}

// P3.2: every operation but those of a function is refused, before anything that is wrong with the values.
func TestOtherOperations(t *testing.T) {
	others := []int{math.MinInt, -1, api.Char + 1, 1 << 32, 1<<32 + api.Not, 1<<32 + api.Add, math.MaxInt}
	for op := range api.Char + 1 {
		others = append(others, op)
	}
	for _, op := range others {
		for _, a := range []uint64{0, 5, 16} {
			if u, e := bits.Unary(op, a, 4); !slices.Contains(unaries, op) && (u != 0 || e != api.ErrArg) {
				t.Errorf("Unary(%d, %d, 4) is %d, %d, want ErrArg", op, a, u, e)
			}
			for _, b := range []uint64{0, 5, 16} {
				if u, e := bits.Binary(op, a, b, 4); !slices.Contains(binaries, op) && (u != 0 || e != api.ErrArg) {
					t.Errorf("Binary(%d, %d, %d, 4) is %d, %d, want ErrArg", op, a, b, u, e)
				}
			}
		}
	}
}

// P3.2: values that are none of the width, and widths that are none.
func TestOperandErrors(t *testing.T) {
	for w := 1; w < 64; w++ {
		out := uint64(1) << w
		for _, op := range unaries {
			if u, e := bits.Unary(op, out, w); u != 0 || e != api.ErrRange {
				t.Errorf("Unary(%d, %d, %d) is %d, %d, want ErrRange", op, out, w, u, e)
			}
		}
		for _, op := range binaries {
			for _, c := range [][2]uint64{{out, 1}, {1, out}, {out, out}, {most, 0}, {0, most}} {
				if u, e := bits.Binary(op, c[0], c[1], w); u != 0 || e != api.ErrRange {
					t.Errorf("Binary(%d, %d, %d, %d) is %d, %d, want ErrRange", op, c[0], c[1], w, u, e)
				}
			}
		}
	}
	for _, w := range badWidths {
		for _, a := range []uint64{0, 1, most} {
			for _, op := range unaries {
				if u, e := bits.Unary(op, a, w); u != 0 || e != api.ErrArg {
					t.Errorf("Unary(%d, %d, %d) is %d, %d, want ErrArg", op, a, w, u, e)
				}
			}
			for _, op := range binaries {
				if u, e := bits.Binary(op, a, 1, w); u != 0 || e != api.ErrArg {
					t.Errorf("Binary(%d, %d, 1, %d) is %d, %d, want ErrArg", op, a, w, u, e)
				}
			}
		}
	}
}

// P3.3: all pairs of widths, against numbers without limits.
func TestConcat(t *testing.T) {
	for v := 1; v < 64; v++ {
		for w := 1; w <= 64-v; w++ {
			for _, a := range []uint64{0, 1, top(v) / 2, top(v)/2 + 1, top(v) - 1, top(v)} {
				for _, b := range []uint64{0, 1, top(w) / 2, top(w)/2 + 1, top(w) - 1, top(w)} {
					n := new(big.Int).Mul(number(a), power(w))
					want := n.Add(n, number(b)).Uint64()
					if u, e := bits.Concat(a, v, b, w); u != want || e != api.OK {
						t.Fatalf("Concat(%d, %d, %d, %d) is %d, %d, want %d", a, v, b, w, u, e, want)
					}
				}
			}
		}
	}
}

// P3.3: the errors of Concat, in their order.
func TestConcatErrors(t *testing.T) {
	for _, c := range []struct {
		a    uint64
		v    int
		b    uint64
		w    int
		want api.Errno
	}{
		{1, 0, 1, 4, api.ErrArg},
		{1, 65, 1, 4, api.ErrArg},
		{1, -4, 1, 8, api.ErrArg},
		{16, 4, 1, 4, api.ErrRange},
		{16, 4, 1, 0, api.ErrRange}, // a comes before the width of b
		{16, 4, 1, 65, api.ErrRange},
		{16, 4, 1, 64, api.ErrRange}, // and before the sum
		{1, 0, 16, 4, api.ErrArg},    // the width of a comes before b
		{1, 65, 16, 4, api.ErrArg},
		{1, 4, 1, 0, api.ErrArg},
		{1, 4, 1, 65, api.ErrArg},
		{1, 4, 16, 4, api.ErrRange},
		{1, 61, 16, 4, api.ErrRange}, // b comes before the sum
		{1, 61, 1, 4, api.ErrArg},
		{0, 64, 0, 1, api.ErrArg},
		{0, 1, 0, 64, api.ErrArg},
		{most, 64, most, 64, api.ErrArg},
		{1, math.MaxInt, 1, math.MaxInt, api.ErrArg},
		{1, math.MinInt, 1, math.MinInt, api.ErrArg},
		{1, 4, 1, math.MinInt, api.ErrArg},
		{1, 4, 1, math.MaxInt, api.ErrArg},
	} {
		if u, e := bits.Concat(c.a, c.v, c.b, c.w); u != 0 || e != c.want {
			t.Errorf("Concat(%d, %d, %d, %d) is %d, %d, want the error %d", c.a, c.v, c.b, c.w, u, e, c.want)
		}
	}
}

// P3.3: all widths and parts; bit i of the result is bit lo + i.
func TestExtract(t *testing.T) {
	for w := 1; w <= 64; w++ {
		for _, a := range []uint64{0, top(w), 0x5555555555555555 & top(w), 0xc3a59687d2e1b4f0 & top(w), 1 << (w - 1), 1} {
			for hi := range w {
				for lo := range hi + 1 {
					n := new(big.Int)
					for i := range hi - lo + 1 {
						n.SetBit(n, i, number(a).Bit(lo+i))
					}
					if u, e := bits.Extract(a, w, hi, lo); u != n.Uint64() || e != api.OK {
						t.Fatalf("Extract(%d, %d, %d, %d) is %d, %d, want %d", a, w, hi, lo, u, e, n)
					}
				}
			}
		}
	}
}

// P3.3: the errors of Extract, in their order.
func TestExtractErrors(t *testing.T) {
	for _, c := range []struct {
		a         uint64
		w, hi, lo int
		want      api.Errno
	}{
		{1, 0, 0, 0, api.ErrArg},
		{1, 65, 0, 0, api.ErrArg},
		{1, math.MinInt, 0, 0, api.ErrArg},
		{1, math.MaxInt, 0, 0, api.ErrArg},
		{16, 4, 3, 0, api.ErrRange},
		{16, 4, 4, 0, api.ErrRange}, // a comes before the bits
		{16, 4, 0, -1, api.ErrRange},
		{1, 4, 4, 0, api.ErrArg},
		{1, 4, 4, 4, api.ErrArg},
		{1, 4, 1, 2, api.ErrArg},
		{1, 4, 3, -1, api.ErrArg},
		{1, 4, -1, -1, api.ErrArg},
		{1, 4, -1, 0, api.ErrArg},
		{1, 4, math.MaxInt, 0, api.ErrArg},
		{1, 4, math.MaxInt, math.MaxInt, api.ErrArg},
		{1, 4, math.MaxInt, math.MinInt, api.ErrArg},
		{1, 4, 3, math.MinInt, api.ErrArg},
		{1, 4, math.MinInt, math.MinInt, api.ErrArg},
		{1, 4, math.MinInt, 0, api.ErrArg},
		{1, 64, 64, 0, api.ErrArg},
		{1, 64, 64, 64, api.ErrArg},
		{1, 1, 1, 0, api.ErrArg},
	} {
		if u, e := bits.Extract(c.a, c.w, c.hi, c.lo); u != 0 || e != c.want {
			t.Errorf("Extract(%d, %d, %d, %d) is %d, %d, want the error %d", c.a, c.w, c.hi, c.lo, u, e, c.want)
		}
	}
}

// P3.3: all widths: without a sign the number stays, with one the signed value does.
func TestExtend(t *testing.T) {
	for w := 1; w < 64; w++ {
		for more := 1; more <= 64-w; more++ {
			for _, a := range []uint64{0, 1, top(w) / 2, top(w)/2 + 1, top(w)} {
				if u, e := bits.Extend(a, w, more, false); u != a || e != api.OK {
					t.Fatalf("Extend(%d, %d, %d, false) is %d, %d", a, w, more, u, e)
				}
				u, e := bits.Extend(a, w, more, true)
				if e != api.OK || u > top(w+more) || signed(u, w+more).Cmp(signed(a, w)) != 0 {
					t.Fatalf("Extend(%d, %d, %d, true) is %d, %d", a, w, more, u, e)
				}
			}
		}
	}
	for _, c := range []struct {
		a       uint64
		w, more int
		want    uint64
	}{{9, 4, 4, 249}, {7, 4, 4, 7}, {1, 1, 1, 3}, {1, 1, 63, most}, {1 << 62, 63, 1, 3 << 62}} {
		if u, e := bits.Extend(c.a, c.w, c.more, true); u != c.want || e != api.OK {
			t.Errorf("Extend(%d, %d, %d, true) is %d, %d, want %d", c.a, c.w, c.more, u, e, c.want)
		}
	}
}

// P3.3: the errors of Extend, in their order; a sum of both widths can be greater than each int.
func TestExtendErrors(t *testing.T) {
	for _, c := range []struct {
		a       uint64
		w, more int
		want    api.Errno
	}{
		{1, 0, 1, api.ErrArg},
		{1, -1, 2, api.ErrArg},
		{1, 65, 1, api.ErrArg},
		{1, math.MinInt, math.MaxInt, api.ErrArg},
		{1, math.MaxInt, math.MaxInt, api.ErrArg},
		{16, 4, 1, api.ErrRange},
		{16, 4, 0, api.ErrRange}, // a comes before more
		{16, 4, 61, api.ErrRange},
		{1, 4, 0, api.ErrArg},
		{1, 4, -1, api.ErrArg},
		{1, 4, 61, api.ErrArg},
		{1, 64, 1, api.ErrArg},
		{1, 64, 0, api.ErrArg},
		{1, 4, math.MaxInt, api.ErrArg},
		{1, 64, math.MaxInt, api.ErrArg},
		{1, 4, math.MaxInt - 3, api.ErrArg},
		{1, 4, math.MinInt, api.ErrArg},
	} {
		for _, s := range []bool{false, true} {
			if u, e := bits.Extend(c.a, c.w, c.more, s); u != 0 || e != c.want {
				t.Errorf("Extend(%d, %d, %d, %t) is %d, %d, want the error %d", c.a, c.w, c.more, s, u, e, c.want)
			}
		}
	}
}

// texts are values and what Text makes of them.
var texts = []struct {
	u uint64
	w int
	s string
}{
	{0, 1, "#b0"},
	{1, 1, "#b1"},
	{2, 2, "#b10"},
	{1, 3, "#b001"},
	{9, 4, "#x9"},
	{0, 4, "#x0"},
	{10, 4, "#xa"},
	{15, 4, "#xf"},
	{9, 5, "#b01001"},
	{0x1f, 7, "#b0011111"},
	{0x0b, 8, "#x0b"},
	{0xcd, 8, "#xcd"},
	{0x234, 12, "#x234"},
	{1, 63, "#b" + strings.Repeat("0", 62) + "1"},
	{1<<63 - 1, 63, "#b" + strings.Repeat("1", 63)},
	{0, 64, "#x0000000000000000"},
	{0x0123456789abcdef, 64, "#x0123456789abcdef"},
	{most, 64, "#xffffffffffffffff"},
	{1 << 63, 64, "#x8000000000000000"},
}

// P3.4: texts that were written out, and all widths.
func TestText(t *testing.T) {
	for _, c := range texts {
		if s, e := bits.Text(c.u, c.w); s != c.s || e != api.OK {
			t.Errorf("Text(%d, %d) is %q, %d, want %q", c.u, c.w, s, e, c.s)
		}
	}
	for w := 1; w <= 64; w++ {
		for _, u := range values(w) {
			mark, base, n := "#b", 2, w
			if w%4 == 0 {
				mark, base, n = "#x", 16, w/4
			}
			digits := strconv.FormatUint(u, base)
			want := mark + strings.Repeat("0", n-len(digits)) + digits
			if s, e := bits.Text(u, w); s != want || e != api.OK {
				t.Fatalf("Text(%d, %d) is %q, %d, want %q", u, w, s, e, want)
			}
		}
	}
}

// P3.4: Text has the errors of Valid, and then no text.
func TestTextErrors(t *testing.T) {
	for w := 1; w < 64; w++ {
		for _, u := range []uint64{1 << w, most} {
			if s, e := bits.Text(u, w); s != "" || e != api.ErrRange {
				t.Errorf("Text(%d, %d) is %q, %d, want ErrRange", u, w, s, e)
			}
		}
	}
	for _, w := range badWidths {
		for _, u := range []uint64{0, most} {
			if s, e := bits.Text(u, w); s != "" || e != api.ErrArg {
				t.Errorf("Text(%d, %d) is %q, %d, want ErrArg", u, w, s, e)
			}
		}
	}
}

// P3.4: what Text writes, and texts of base 2 that it does not write.
func TestParse(t *testing.T) {
	for _, c := range texts {
		if u, w, e := bits.Parse(c.s); u != c.u || w != c.w || e != api.OK {
			t.Errorf("Parse(%q) is %d, %d, %d, want %d, %d", c.s, u, w, e, c.u, c.w)
		}
	}
	for n := 1; n <= 64; n++ {
		for _, u := range values(n) {
			digits := strconv.FormatUint(u, 2)
			s := "#b" + strings.Repeat("0", n-len(digits)) + digits
			if v, w, e := bits.Parse(s); v != u || w != n || e != api.OK {
				t.Fatalf("Parse(%q) is %d, %d, %d, want %d, %d", s, v, w, e, u, n)
			}
		}
	}
}

// P3.4: each byte as a digit, alone and among others.
func TestParseDigits(t *testing.T) {
	for c := range 256 {
		digit := string([]byte{byte(c)})
		for _, m := range []struct {
			mark, digits string
			size         int
		}{{"#b", "01", 1}, {"#x", "0123456789abcdef", 4}} {
			v := uint64(max(strings.Index(m.digits, digit), 0))
			known := strings.Contains(m.digits, digit)
			for _, around := range [][2]string{{"", ""}, {"1", ""}, {"", "1"}, {"0", "1"}} {
				s := m.mark + around[0] + digit + around[1]
				n := v
				if around[0] == "1" {
					n |= 1 << m.size
				}
				if around[1] == "1" {
					n = n<<m.size | 1
				}
				width, want := m.size*(len(s)-2), api.OK
				if !known {
					n, width, want = 0, 0, api.ErrForm
				}
				if u, w, e := bits.Parse(s); u != n || w != width || e != want {
					t.Errorf("Parse(%q) is %d, %d, %d, want %d, %d, %d", s, u, w, e, n, width, want)
				}
			}
		}
	}
}

// P3.4: the greatest number of digits, and too many, even if they are zeros.
func TestParseLengths(t *testing.T) {
	for _, m := range []struct {
		mark string
		size int
	}{{"#b", 1}, {"#x", 4}} {
		for n := range 200 {
			for _, digit := range []string{"0", "1"} {
				s := m.mark + strings.Repeat(digit, n)
				u, w, e := bits.Parse(s)
				if n < 1 || n*m.size > 64 {
					if u != 0 || w != 0 || e != api.ErrForm {
						t.Errorf("Parse(%q) is %d, %d, %d, want ErrForm", s, u, w, e)
					}
				} else if w != n*m.size || e != api.OK {
					t.Errorf("Parse(%q) is %d, %d, %d", s, u, w, e)
				}
			}
		}
	}
}

// P3.4: texts of other forms, which have no value and no width.
func TestParseErrors(t *testing.T) {
	for _, s := range []string{
		"", "#", "b", "x", "#b", "#x", "0", "01", "b01", "x0a", "0b01", "0x0a",
		"#b2", "#b01a", "#b012", "#xg", "#x0g", "#xA", "#xF0", "#B0", "#X0", "#d0", "#o7",
		" #b0", "#b0 ", "# b0", "#b 0", "#b0\n", "\t#x0", "#b\x000", "\x00#b0", "#b+1", "#b-1", "#x-1", "#x+1", "#b_1", "#b0_1", "#x0_1",
		"##b0", "#b#b0", "#b0#b0", "#b0#", "bb0", "#bb", "#xx0", "#b\u0661", "#b\xff", "#x\u00e9", "\uff03b0",
		strings.Repeat("0", 64), "#b" + strings.Repeat("0", 64) + "x", "#b" + strings.Repeat("0", 63) + "2", "#x" + strings.Repeat("0", 15) + "g", "#x" + strings.Repeat("f", 17), "#b" + strings.Repeat("1", 1<<16),
	} {
		if u, w, e := bits.Parse(s); u != 0 || w != 0 || e != api.ErrForm {
			t.Errorf("Parse(%q) is %d, %d, %d, want ErrForm", s, u, w, e)
		}
	}
}
