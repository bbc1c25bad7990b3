package floats

import (
	"fmt"
	"math"
	"math/big"
	"math/rand"
	"slices"
	"strings"
	"testing"
	"unsafe"

	"pannier/api"
)

// The bits of some values.
const (
	minusZero     = 0x8000000000000000
	plusInf       = 0x7ff0000000000000
	minusInf      = 0xfff0000000000000
	canonicalNaN  = 0x7ff8000000000000
	greatest      = 0x7fefffffffffffff
	minusGreatest = 0xffefffffffffffff
	allOnes       = 0xffffffffffffffff
)

// inOrder is the bits of values of all kinds, in the order of their keys.
var inOrder = []uint64{
	// The NaNs with the highest bit 1, quiet ones first.
	allOnes, 0xfffffffffffffffe, 0xfff8000000000001, 0xfff8000000000000, 0xfff7ffffffffffff, 0xfff4000000000000, 0xfff0000000000001,
	minusInf,
	minusGreatest, 0xffeffffffffffffe, 0xc340000000000000, 0xc000000000000000, 0xbff0000000000001, 0xbff0000000000000, 0xbfefffffffffffff, 0xbfb999999999999a, 0xbca0000000000000,
	// The smallest numbers.
	0x8010000000000001, 0x8010000000000000, 0x800fffffffffffff, 0x8008000000000000, 0x8000000000000002, 0x8000000000000001,
	minusZero, 0,
	1, 2, 0x0008000000000000, 0x000fffffffffffff, 0x0010000000000000, 0x0010000000000001,
	0x3ca0000000000000, 0x3fb999999999999a, 0x3fefffffffffffff, 0x3ff0000000000000, 0x3ff0000000000001, 0x4000000000000000, 0x4340000000000000, 0x7feffffffffffffe, greatest,
	plusInf,
	// The NaNs with the highest bit 0, quiet ones last.
	0x7ff0000000000001, 0x7ff4000000000000, 0x7ff7ffffffffffff, canonicalNaN, 0x7ff8000000000001, 0x7ffffffffffffffe, 0x7fffffffffffffff,
}

// bitsOf is the bits of a value, by its memory, valueOf the value with some bits.
func bitsOf(x float64) uint64   { return *(*uint64)(unsafe.Pointer(&x)) }
func valueOf(b uint64) float64  { return *(*float64)(unsafe.Pointer(&b)) }
func same64(x, y float64) bool  { return bitsOf(x) == bitsOf(y) }
func alike(l, m []float64) bool { return slices.EqualFunc(l, m, same64) }

// values are the values with some bits, texts are what a list is in messages.
func values(l ...uint64) []float64 {
	out := make([]float64, len(l))
	for i, b := range l {
		out[i] = valueOf(b)
	}
	return out
}
func texts(l []float64) []string {
	var out []string
	for _, x := range l {
		out = append(out, fmt.Sprintf("%016x", bitsOf(x)))
	}
	return out
}

// keyOf is the key of a value with some bits, by the definition, in numbers without an end.
func keyOf(b uint64) uint64 {
	bits, half := new(big.Int).SetUint64(b), new(big.Int).Lsh(big.NewInt(1), 63)
	if bits.Cmp(half) < 0 {
		return bits.Add(half, bits).Uint64()
	}
	last := new(big.Int).Lsh(big.NewInt(1), 64)
	last.Sub(last, big.NewInt(1))
	return last.Sub(last, bits).Uint64()
}

// ordered is -1, 0 or 1 by the definition of the order.
func ordered(x, y float64) int {
	return new(big.Int).SetUint64(keyOf(bitsOf(x))).Cmp(new(big.Int).SetUint64(keyOf(bitsOf(y))))
}

// canonical is the canonical value of a value, by the definition.
func canonical(x float64) float64 {
	switch {
	case x != x:
		return valueOf(canonicalNaN)
	case x == 0:
		return valueOf(0)
	default:
		return x
	}
}

// plus is the canonical value of the sum of two values, rounded once, to nearest and ties to even, from the exact sum.
func plus(x, y float64) float64 {
	switch {
	case x != x || y != y || math.IsInf(x, 0) && math.IsInf(y, 0) && x != y:
		return valueOf(canonicalNaN)
	case math.IsInf(x, 0):
		return x
	case math.IsInf(y, 0):
		return y
	}
	exact := func(z float64) *big.Float { return new(big.Float).SetPrec(2500).SetFloat64(z) }
	sum, _ := new(big.Float).SetPrec(2500).Add(exact(x), exact(y)).Float64()
	return canonical(sum)
}

// put is values in order, by taking the first one again and again.
func put(l []float64) []float64 {
	rest, out := slices.Clone(l), []float64{}
	for len(rest) > 0 {
		first := 0
		for i, x := range rest {
			if ordered(x, rest[first]) < 0 {
				first = i
			}
		}
		out = append(out, rest[first])
		rest = slices.Delete(rest, first, first+1)
	}
	return out
}

// total is the sum of values, by the definition.
func total(l []float64) float64 {
	var all []float64
	for _, x := range l {
		all = append(all, canonical(x))
	}
	sum := valueOf(0)
	for _, x := range put(all) {
		sum = plus(sum, x)
	}
	return sum
}

// someBits are the bits of many values: those in order, each exponent with some fractions and both signs, each one and each two bits alone and all but them, and random ones.
func someBits() []uint64 {
	out := slices.Clone(inOrder)
	for exponent := range uint64(2048) {
		for _, fraction := range []uint64{0, 1, 1 << 51, 1<<51 + 1, 1<<51 - 1, 1<<52 - 2, 1<<52 - 1} {
			out = append(out, exponent<<52|fraction, 1<<63|exponent<<52|fraction)
		}
	}
	for i := range 64 {
		for k := range i + 1 {
			out = append(out, 1<<i|1<<k, ^uint64(1<<i|1<<k))
		}
	}
	r := rand.New(rand.NewSource(13))
	for range 5000 {
		out = append(out, r.Uint64(), r.Uint64()&^(1<<63), r.Uint64()|plusInf)
	}
	return out
}

// lists are all lists of some values with up to a length.
func lists(l []float64, longest int) [][]float64 {
	out := [][]float64{nil}
	for from := 0; longest > 0; longest-- {
		to := len(out)
		for _, m := range out[from:to] {
			for _, x := range l {
				out = append(out, append(slices.Clone(m), x))
			}
		}
		from = to
	}
	return out
}

// orders are the values in all orders, as long as they are few.
func orders(l []float64) [][]float64 {
	if len(l) == 0 {
		return [][]float64{nil}
	}
	var out [][]float64
	for i, x := range l {
		for _, m := range orders(slices.Delete(slices.Clone(l), i, i+1)) {
			out = append(out, append(m, x))
		}
	}
	return out
}

// The examples of the chapter.
func TestExamples(t *testing.T) {
	zero, inf, big := valueOf(minusZero), valueOf(plusInf), float64(1<<53)
	for text, x := range map[string]float64{"0000000000000000": 0, "8000000000000000": zero, "3ff0000000000000": 1, "c000000000000000": -2, "7ff0000000000000": inf, "3fb999999999999a": 0.1} {
		if s := Text(x); s != text {
			t.Error(text, s)
		}
	}
	if Key(0) != 1<<63 || Key(zero) != 1<<63-1 || bitsOf(Of(0)) != allOnes {
		t.Error(Key(0), Key(zero), Text(Of(0)))
	}
	if Compare(zero, 0) != -1 || Compare(inf, valueOf(0x7ff8000000000001)) != -1 || Compare(-2, 1) != -1 {
		t.Error("orders")
	}
	if bitsOf(Canon(zero)) != 0 || bitsOf(Canon(valueOf(0xfff8000000000001))) != 0x7ff8000000000000 || !Same(zero, 0) || Same(0.1, 0.2) {
		t.Error("canonical values")
	}
	if l := Sorted([]float64{1, zero, -2, 0}); !alike(l, []float64{-2, zero, 0, 1}) {
		t.Error(texts(l))
	}
	for i, c := range []struct {
		l    []float64
		want float64
	}{{nil, 0}, {[]float64{1, 2, -3}, 0}, {[]float64{inf, -inf}, valueOf(canonicalNaN)}, {[]float64{big, 1, 1}, big + 2}, {[]float64{1, big, 1}, big + 2}} {
		if x := Sum(c.l); !same64(x, c.want) {
			t.Error(i, Text(x))
		}
	}
	if x, err := Parse("3FF0000000000000"); bitsOf(x) != 0 || err != api.ErrFormat {
		t.Error(Text(x), err)
	}
}

// P13.1: known keys: at the ends, at both zeros and infinities, at numbers and NaNs.
func TestKnownKeys(t *testing.T) {
	for b, key := range map[uint64]uint64{
		allOnes: 0, 0xfffffffffffffffe: 1, 0xfff8000000000000: 0x0007ffffffffffff, 0xfff0000000000001: 0x000ffffffffffffe,
		minusInf: 0x000fffffffffffff, minusGreatest: 0x0010000000000000, 0xbff0000000000000: 0x400fffffffffffff,
		0x8000000000000001: 1<<63 - 2, minusZero: 1<<63 - 1, 0: 1 << 63, 1: 1<<63 + 1,
		0x3ff0000000000000: 0xbff0000000000000, greatest: 0xffefffffffffffff, plusInf: 0xfff0000000000000,
		0x7ff0000000000001: 0xfff0000000000001, canonicalNaN: 0xfff8000000000000, 0x7ffffffffffffffe: 1<<64 - 2, 0x7fffffffffffffff: 1<<64 - 1,
	} {
		if k, x := Key(valueOf(b)), Of(key); k != key || bitsOf(x) != b {
			t.Errorf("%016x: %x, %016x", b, k, bitsOf(x))
		}
	}
}

// P13.1 and P13.5: keys are what the definition says, and Key and Of invert each other.
func TestKeys(t *testing.T) {
	for _, b := range someBits() {
		x := valueOf(b)
		if k := Key(x); k != keyOf(b) || bitsOf(Of(k)) != b {
			t.Fatalf("%016x %x", b, k)
		}
		// The same numbers as keys.
		if y := Of(b); keyOf(bitsOf(y)) != b || Key(y) != b {
			t.Fatalf("%x %016x", b, bitsOf(y))
		}
	}
}

// P13.1: the order of values of all kinds.
func TestOrderOfKinds(t *testing.T) {
	for i, a := range inOrder {
		for k, b := range inOrder {
			want := 0
			if i < k {
				want = -1
			} else if i > k {
				want = 1
			}
			if c := Compare(valueOf(a), valueOf(b)); c != want {
				t.Errorf("%016x %016x %d", a, b, c)
			}
			if less := Key(valueOf(a)) < Key(valueOf(b)); less != (i < k) {
				t.Errorf("%016x %016x %t", a, b, less)
			}
		}
	}
}

// P13.1: Compare is by the order of the keys, in both directions, and 0 for equal bits alone.
func TestCompare(t *testing.T) {
	r := rand.New(rand.NewSource(1))
	all := values(someBits()...)
	for _, x := range all {
		near := valueOf(bitsOf(x) ^ 1<<r.Intn(64))
		for _, y := range []float64{x, -x, near, all[r.Intn(len(all))], valueOf(0), valueOf(minusZero), valueOf(canonicalNaN)} {
			c := Compare(x, y)
			if c != ordered(x, y) || c != -Compare(y, x) || (c == 0) != same64(x, y) {
				t.Fatal(texts([]float64{x, y}), c)
			}
		}
	}
}

// P13.1: of three values the order is one order.
func TestCompareThree(t *testing.T) {
	all := values(inOrder...)
	for _, x := range all {
		for _, y := range all {
			for _, z := range all {
				if Compare(x, y) <= 0 && Compare(y, z) <= 0 && Compare(x, z) > 0 {
					t.Fatal(texts([]float64{x, y, z}))
				}
			}
		}
	}
}

// P13.5: of two numbers the less one comes first; the numbers stand between the infinities, and the NaNs outside.
func TestNumbersInOrder(t *testing.T) {
	r := rand.New(rand.NewSource(2))
	all := values(someBits()...)
	inf := math.Inf(1)
	for _, x := range all {
		for _, y := range []float64{all[r.Intn(len(all))], -x, math.Nextafter(x, inf), math.Nextafter(x, -inf), 0, 1} {
			if x < y && Compare(x, y) != -1 || y < x && Compare(x, y) != 1 {
				t.Fatal(texts([]float64{x, y}))
			}
		}
		number := x == x
		if inside := Compare(x, -inf) >= 0 && Compare(x, inf) <= 0; inside != number {
			t.Fatal(texts([]float64{x}))
		}
		if before := Compare(x, -inf) < 0; before != (!number && math.Signbit(x)) {
			t.Fatal(texts([]float64{x}))
		}
	}
	if Compare(valueOf(minusZero), valueOf(0)) != -1 || Compare(valueOf(0), valueOf(minusZero)) != 1 {
		t.Error("the zeros")
	}
}

// P13.2: known canonical values.
func TestKnownCanon(t *testing.T) {
	for b, want := range map[uint64]uint64{
		0: 0, minusZero: 0, 1: 1, 0x8000000000000001: 0x8000000000000001, 0x000fffffffffffff: 0x000fffffffffffff, 0x8010000000000000: 0x8010000000000000,
		0x3ff0000000000000: 0x3ff0000000000000, 0xbff0000000000000: 0xbff0000000000000, greatest: greatest, minusGreatest: minusGreatest, plusInf: plusInf, minusInf: minusInf,
		0x7ff0000000000001: canonicalNaN, 0xfff0000000000001: canonicalNaN, 0x7ff7ffffffffffff: canonicalNaN, 0xfff7ffffffffffff: canonicalNaN, canonicalNaN: canonicalNaN, 0xfff8000000000000: canonicalNaN,
		0x7ff8000000000001: canonicalNaN, 0x7fffffffffffffff: canonicalNaN, allOnes: canonicalNaN,
	} {
		if x := Canon(valueOf(b)); bitsOf(x) != want {
			t.Errorf("%016x %016x", b, bitsOf(x))
		}
	}
}

// P13.2 and P13.5: canonical values are what the definition says, each is its own, and the same as the value.
func TestCanon(t *testing.T) {
	for _, x := range values(someBits()...) {
		c := Canon(x)
		if !same64(c, canonical(x)) || !same64(Canon(c), c) || !Same(x, c) || !Same(c, x) || !Same(x, x) {
			t.Fatal(texts([]float64{x, c}))
		}
	}
}

// P13.2: two values are the same if the bits of their canonical values are equal: all pairs of all kinds, and values of which one bit differs.
func TestSame(t *testing.T) {
	hold := func(x, y float64) {
		want := same64(canonical(x), canonical(y))
		if Same(x, y) != want || Same(y, x) != want {
			t.Error(texts([]float64{x, y}), Same(x, y), Same(y, x))
		}
		// What == says of numbers is the same; NaNs are the same as NaNs alone.
		if want != (x == y || x != x && y != y) {
			t.Error(texts([]float64{x, y}))
		}
	}
	all := values(inOrder...)
	for _, x := range all {
		for _, y := range all {
			hold(x, y)
		}
	}
	for n, x := range values(someBits()...) {
		hold(x, valueOf(bitsOf(x)^1<<(n%64)))
		hold(x, -x)
	}
}

// P13.3: values in order: all short lists of values of several kinds.
func TestSortedShortLists(t *testing.T) {
	few := values(allOnes, 0xfff8000000000000, minusInf, 0xc000000000000000, minusZero, 0, 0x3ff0000000000000, plusInf, canonicalNaN)
	for _, l := range lists(few, 4) {
		if s := Sorted(l); !alike(s, put(l)) {
			t.Fatal(texts(l), texts(s))
		}
	}
}

// P13.3: the values of all kinds, from the end and in random orders, once, twice and more often, stay the values that they are.
func TestSortedKinds(t *testing.T) {
	want := values(inOrder...)
	l := slices.Clone(want)
	slices.Reverse(l)
	if s := Sorted(l); !alike(s, want) {
		t.Error(texts(s))
	}
	r := rand.New(rand.NewSource(3))
	for times := 1; times <= 4; times++ {
		var l, want []float64
		for _, b := range inOrder {
			for range times {
				l, want = append(l, valueOf(b)), append(want, valueOf(b))
			}
		}
		for range 50 {
			r.Shuffle(len(l), func(i, k int) { l[i], l[k] = l[k], l[i] })
			if s := Sorted(l); !alike(s, want) {
				t.Fatal(times, texts(s))
			}
			if s := Sorted(want); !alike(s, want) {
				t.Fatal(times, texts(s))
			}
		}
	}
}

// P13.3: lists without values, with one value, and with equal values.
func TestSortedFew(t *testing.T) {
	for _, l := range [][]float64{nil, {}, make([]float64, 0, 5)} {
		if s := Sorted(l); len(s) != 0 {
			t.Error(s)
		}
		if x := Sum(l); bitsOf(x) != 0 {
			t.Error(texts([]float64{x}))
		}
	}
	for _, x := range values(inOrder...) {
		if s := Sorted([]float64{x}); !alike(s, []float64{x}) {
			t.Error(texts(s))
		}
		if s := Sorted([]float64{x, x, x}); !alike(s, []float64{x, x, x}) {
			t.Error(texts(s))
		}
		if s := Sum([]float64{x}); !same64(s, canonical(x)) {
			t.Error(texts([]float64{x, s}))
		}
	}
}

// P13.3: long lists; a stable order of their keys as texts is that of the definition.
func TestLong(t *testing.T) {
	r := rand.New(rand.NewSource(4))
	some := someBits()
	for _, size := range []int{1000, 4097, 100000} {
		l, keys := make([]float64, size), make([]string, size)
		for i := range l {
			b := some[r.Intn(len(some))]
			l[i], keys[i] = valueOf(b), fmt.Sprintf("%016x", keyOf(b))
		}
		slices.Sort(keys)
		s := Sorted(l)
		if len(s) != size {
			t.Fatal(size, len(s))
		}
		for i, x := range s {
			if fmt.Sprintf("%016x", keyOf(bitsOf(x))) != keys[i] {
				t.Fatal(size, i)
			}
		}
	}
	// As many ones as a sum can count, and as small numbers as there are.
	ones, smallest := make([]float64, 1<<20), make([]float64, 1<<20)
	for i := range ones {
		ones[i], smallest[i] = 1, valueOf(1)
	}
	if x, y := Sum(ones), Sum(smallest); x != 1<<20 || bitsOf(y) != 1<<20 {
		t.Error(texts([]float64{x, y}))
	}
}

// P13.3: known sums.
func TestKnownSums(t *testing.T) {
	inf, zero, nan, most, least := valueOf(plusInf), valueOf(minusZero), valueOf(canonicalNaN), valueOf(greatest), valueOf(1)
	two := func(n int) float64 { return math.Ldexp(1, n) }
	for i, c := range []struct {
		l    []float64
		want float64
	}{
		// Exact ones.
		{[]float64{1, 2, 3}, 6}, {[]float64{0.5, 0.25, -0.125}, 0.625}, {[]float64{1, -1}, 0}, {[]float64{-1, -2}, -3},
		{[]float64{zero}, 0}, {[]float64{zero, zero}, 0}, {[]float64{zero, 0}, 0}, {[]float64{5, zero, zero}, 5}, {[]float64{zero, -5}, -5},
		{[]float64{least, least}, valueOf(2)}, {[]float64{least, -least}, 0}, {[]float64{-least, zero}, -least}, {[]float64{valueOf(0x000fffffffffffff), least}, valueOf(0x0010000000000000)}, {[]float64{valueOf(0x0010000000000000), -least}, valueOf(0x000fffffffffffff)},
		// Rounded ones: to nearest, and ties to even.
		{[]float64{0.1, 0.2}, valueOf(0x3fd3333333333334)}, {[]float64{1, two(-53)}, 1}, {[]float64{1, two(-52)}, valueOf(0x3ff0000000000001)},
		{[]float64{valueOf(0x3ff0000000000001), two(-53)}, valueOf(0x3ff0000000000002)}, {[]float64{1, valueOf(0x3ca0000000000001)}, valueOf(0x3ff0000000000001)}, {[]float64{two(53), 1}, two(53)}, {[]float64{two(53) + 2, 1}, two(53) + 4}, {[]float64{two(53), 3}, two(53) + 4},
		{[]float64{1, least}, 1}, {[]float64{most, 1}, most},
		// Sums in which the order matters: it is that of the keys, neither that of the sizes nor the other way round, and nothing is rounded at the end alone.
		{[]float64{two(53), 1, 1}, two(53) + 2}, {[]float64{1, two(53), 1}, two(53) + 2}, {[]float64{1, 1, two(53)}, two(53) + 2},
		{[]float64{-two(53), -1, -1}, -two(53)}, {[]float64{-1, -1, -two(53)}, -two(53)}, {[]float64{-two(54), 1, 1}, -two(54)}, {[]float64{1, -two(54), 1}, -two(54)},
		{[]float64{-two(53), 1, two(53)}, 1}, {[]float64{two(53), 1, -two(53)}, 1}, {[]float64{two(54), 1, -two(54)}, 0}, {[]float64{two(54), 1, 1, -two(54)}, 0}, {[]float64{most, -most, 5}, 0}, {[]float64{5, -two(53), 0.5, two(53)}, 5},
		{[]float64{0.1, 0.2, 0.3}, valueOf(0x3fe3333333333334)}, {[]float64{0.3, 0.2, 0.1}, valueOf(0x3fe3333333333334)},
		// Sums that overflow, or would in another order.
		{[]float64{most, most}, inf}, {[]float64{-most, -most}, -inf}, {[]float64{most, most, -most}, most}, {[]float64{most, -most, most, most}, inf}, {[]float64{-most, -most, most}, -inf}, {[]float64{-most, most, -most, most}, -inf},
		{[]float64{most, two(970)}, inf}, {[]float64{most, math.Nextafter(two(970), 0)}, most}, {[]float64{-most, -two(970)}, -inf}, {[]float64{most, two(969), two(969)}, inf}, {[]float64{most, two(968), two(968)}, most},
		{[]float64{-most, -most, inf}, nan}, {[]float64{most, most, -inf}, -inf}, {[]float64{-most, -most, most, most}, -inf},
		// Infinities and NaNs.
		{[]float64{inf}, inf}, {[]float64{-inf}, -inf}, {[]float64{inf, inf}, inf}, {[]float64{inf, -most}, inf}, {[]float64{-inf, most, most}, -inf}, {[]float64{inf, -inf}, nan}, {[]float64{-inf, 1, inf}, nan},
		{[]float64{nan}, nan}, {[]float64{1, nan}, nan}, {[]float64{valueOf(allOnes), 1}, nan}, {[]float64{valueOf(0x7ff0000000000001)}, nan}, {[]float64{valueOf(0xfff0000000000001), inf}, nan}, {[]float64{valueOf(0x7ff8000000000001), valueOf(0xfff8000000000001)}, nan},
	} {
		for _, l := range orders(c.l) {
			if x := Sum(l); !same64(x, c.want) {
				t.Error(i, texts(l), texts([]float64{x, c.want}))
			}
		}
		if x := total(c.l); !same64(x, c.want) {
			t.Error("by the definition", i, texts([]float64{x, c.want}))
		}
	}
}

// P13.3 and P13.5: all short lists have the sum of the definition, which is a canonical value.
func TestSumShortLists(t *testing.T) {
	few := values(allOnes, minusInf, minusGreatest, 0xc340000000000000, 0xbff0000000000000, 0x8000000000000001, minusZero, 0, 1, 0x3fb999999999999a, 0x3ff0000000000000, 0x4340000000000000, 0x7c90000000000000, greatest, plusInf, canonicalNaN)
	for _, l := range lists(few, 3) {
		if x := Sum(l); !same64(x, total(l)) || !same64(x, Canon(x)) {
			t.Fatal(texts(l), texts([]float64{x, total(l)}))
		}
	}
	few = []float64{-math.Ldexp(1, 53), -1, valueOf(minusZero), 1, 3, math.Ldexp(1, 53)}
	for _, l := range lists(few, 5) {
		if x := Sum(l); !same64(x, total(l)) {
			t.Fatal(texts(l), texts([]float64{x, total(l)}))
		}
	}
}

// numbers are random numbers of such sizes that their sums are rounded.
func numbers(r *rand.Rand, size int) []float64 {
	l := make([]float64, size)
	for i := range l {
		l[i] = math.Ldexp(r.NormFloat64(), r.Intn(80)-40)
	}
	return l
}

// P13.3 and P13.5: sums of random numbers are those of the definition, and do not depend on the order, on the sign of zeros nor on the kind of NaNs.
func TestSumAnyOrder(t *testing.T) {
	r := rand.New(rand.NewSource(5))
	inOther := 0
	for range 300 {
		l := numbers(r, 3+r.Intn(30))
		for range r.Intn(3) {
			l = append(l, valueOf(minusZero), valueOf(0))
		}
		if r.Intn(10) == 0 {
			l = append(l, valueOf(inOrder[r.Intn(len(inOrder))]))
		}
		want := total(l)
		for range 10 {
			r.Shuffle(len(l), func(i, k int) { l[i], l[k] = l[k], l[i] })
			if x := Sum(l); !same64(x, want) {
				t.Fatal(texts(l), texts([]float64{x, want}))
			}
		}
		given := 0.0
		for _, x := range l {
			given += x
		}
		if !Same(given, want) {
			inOther++
		}
	}
	if inOther < 100 {
		t.Error("the order hardly matters", inOther)
	}
}

// P13.5: a sum does not depend on which of the same values there are: all ways to replace zeros and NaNs, in all orders.
func TestSumOfTheSameValues(t *testing.T) {
	zeros := values(0, minusZero)
	nans := values(canonicalNaN, 0xfff8000000000000, 0x7ff0000000000001, 0xfff0000000000001, 0x7fffffffffffffff, allOnes)
	rests := [][]float64{nil, {1}, {-1, 1}, {-math.MaxFloat64, math.MaxFloat64}, {math.Inf(1)}, {math.Inf(-1), 2}, {math.Inf(1), math.Inf(-1)}, {valueOf(0x8000000000000001)}}
	for _, same := range [][]float64{zeros, nans} {
		for _, rest := range rests {
			for n := 1; n <= 2; n++ {
				want := Sum(append(slices.Repeat(same[:1], n), rest...))
				for _, chosen := range lists(same, n) {
					if len(chosen) < n {
						continue
					}
					for _, l := range orders(append(chosen, rest...)) {
						if x := Sum(l); !same64(x, want) {
							t.Fatal(texts(l), texts([]float64{x, want}))
						}
					}
				}
			}
		}
	}
}

// P13.4: known texts.
func TestKnownTexts(t *testing.T) {
	for s, b := range map[string]uint64{
		"0000000000000000": 0, "8000000000000000": minusZero, "0000000000000001": 1, "000000000000000f": 15, "0000000000000010": 16, "8000000000000001": 0x8000000000000001, "0123456789abcdef": 0x0123456789abcdef, "fedcba9876543210": 0xfedcba9876543210,
		"4340000000000000": 0x4340000000000000, "7fefffffffffffff": greatest, "ffefffffffffffff": minusGreatest, "7ff0000000000000": plusInf, "fff0000000000000": minusInf,
		"7ff0000000000001": 0x7ff0000000000001, "fff0000000000001": 0xfff0000000000001, "7ff8000000000000": canonicalNaN, "fff8000000000000": 0xfff8000000000000, "7fffffffffffffff": 0x7fffffffffffffff, "ffffffffffffffff": allOnes,
	} {
		if text := Text(valueOf(b)); text != s {
			t.Error(s, text)
		}
		if x, err := Parse(s); bitsOf(x) != b || err != api.OK {
			t.Error(s, texts([]float64{x}), err)
		}
	}
}

// P13.4 and P13.5: texts are 16 digits of the bits, from the highest ones on, and Parse inverts Text.
func TestTexts(t *testing.T) {
	for _, b := range someBits() {
		s := Text(valueOf(b))
		if len(s) != 16 {
			t.Fatalf("%016x %s", b, s)
		}
		for i, c := range []byte(s) {
			if c != "0123456789abcdef"[b>>(60-4*i)&15] {
				t.Fatalf("%016x %s", b, s)
			}
		}
		if x, err := Parse(s); bitsOf(x) != b || err != api.OK {
			t.Fatal(s, texts([]float64{x}), err)
		}
	}
}

// refused is that a string is not a text.
func refused(t *testing.T, s string) {
	t.Helper()
	if x, err := Parse(s); bitsOf(x) != 0 || err != api.ErrFormat {
		t.Errorf("%q %x %v", s, bitsOf(x), err)
	}
}

// P13.4: strings that are not texts: too short or too long, with capital letters, other letters, signs, spaces, prefixes and digits of others.
func TestParseOthers(t *testing.T) {
	for n := range 40 {
		for _, digit := range []string{"0", "1", "f"} {
			if n != 16 {
				refused(t, strings.Repeat(digit, n))
			}
		}
	}
	for _, s := range []string{
		"3FF0000000000000", "3ff000000000000A", "FFFFFFFFFFFFFFFF", "7fF8000000000000", "3ff000000000000g", "g000000000000000", "3fe00000000000oo",
		"+ff0000000000000", "-ff0000000000000", "+3ff0000000000000", "-3ff0000000000000", "3ff000000000000-", "0000000000000-00",
		" 3ff0000000000000", "3ff0000000000000 ", " ff0000000000000", "3ff000000000000 ", "3ff00000 0000000", "3ff0000000000000\n", "\t3ff000000000000", "3ff0000000000000\x00", "\x003ff000000000000",
		"0x00000000000000", "0x3ff0000000000000", "0X00000000000000", "0B00000000000000", "0o00000000000000", "x000000000000000", "#000000000000000", "3ff0_0000_0000_00", "3ff0_0000_0000_0000", "0_00000000000000",
		"1", "1.0", "1.00000000000000", "1e00000000000000.", "0x1p-2", "0x1.0000000000p1", "NaN", "nan", "Inf", "+Inf", "-inf", "infinity", "1000000000000000.",
		"10000000000000000", "00000000000000000", "03ff0000000000000", "18446744073709551615", "99999999999999999999999999",
		"\uff10000000000000", "٣000000000000", "٣٣٣٣٣٣٣٣", "é00000000000000", "\xff00000000000000", "\xff\xff\xff\xff\xff\xff\xff\xff\xff\xff\xff\xff\xff\xff\xff\xff", "\"ff0000000000000", "ff,0000000000000",
		strings.Repeat("0", 1<<20), strings.Repeat("3ff0000000000000", 2), strings.Repeat("\x00", 16), strings.Repeat(" ", 16),
	} {
		refused(t, s)
	}
}

// P13.4: of each place of a text all bytes but digits are refused, and digits lead to the value with these bits; a text with less or more is none.
func TestParseChangedTexts(t *testing.T) {
	for _, b := range inOrder {
		s := fmt.Sprintf("%016x", b)
		for i := range s {
			for c := range 256 {
				changed := s[:i] + string([]byte{byte(c)}) + s[i+1:]
				digit := strings.IndexByte("0123456789abcdef", byte(c))
				if digit < 0 {
					refused(t, changed)
					continue
				}
				want := b&^(15<<(60-4*i)) | uint64(digit)<<(60-4*i)
				if x, err := Parse(changed); bitsOf(x) != want || err != api.OK {
					t.Error(changed, texts([]float64{x}), err)
				}
			}
			refused(t, s[:i])
			refused(t, s[i+1:])
			refused(t, s[:i]+s[i+1:])
			refused(t, s[:i]+"0"+s[i:])
		}
		refused(t, s+"0")
	}
}

// longer is a list with values behind its end.
func longer(l []float64) []float64 { return append(slices.Clone(l), 8, valueOf(allOnes))[:len(l)] }

// someLists are lists with values of all kinds, in order and not.
func someLists() [][]float64 {
	all := values(inOrder...)
	back := slices.Clone(all)
	slices.Reverse(back)
	return [][]float64{{}, {1}, {valueOf(minusZero)}, {valueOf(allOnes), valueOf(0x7ff0000000000001)}, {3, 2, 1}, {1, 2, 3}, {0, valueOf(minusZero), 0, valueOf(minusZero)}, {math.Inf(1), math.Inf(-1)}, all, back, numbers(rand.New(rand.NewSource(6)), 200)}
}

// The rules: no call changes its arguments, not even behind the ends of their lists, and equal calls have equal results.
func TestArgumentsStay(t *testing.T) {
	for _, l := range someLists() {
		l = longer(l)
		whole := l[:len(l)+2]
		before := slices.Clone(whole)
		first, sum := Sorted(l), Sum(l)
		second, again := Sorted(l), Sum(l)
		if !alike(whole, before) {
			t.Error(texts(before), texts(whole))
		}
		if !alike(first, second) || !same64(sum, again) {
			t.Error(texts(first), texts(second))
		}
	}
}

// The rules: whatever is changed in a result, the arguments and the other results stay what they were; whatever is changed in an argument, the results do.
func TestNewMemory(t *testing.T) {
	spoil := func(l []float64) {
		l = l[:cap(l)]
		for i := range l {
			l[i] = -9
		}
	}
	for _, l := range someLists() {
		l = longer(l)
		whole := l[:len(l)+2]
		before := slices.Clone(whole)
		first, second := Sorted(l), Sorted(l)
		want := put(l)
		spoil(first)
		if !alike(whole, before) || !alike(second, want) {
			t.Error(texts(before), texts(whole), texts(second))
		}
		third := Sorted(second)
		spoil(second)
		if !alike(third, want) {
			t.Error(texts(want), texts(third))
		}
		spoil(l)
		if !alike(third, want) {
			t.Error(texts(want), texts(third))
		}
	}
}

// The rules: no result shares memory with a list or with another result, not even behind their ends.
func TestNothingShared(t *testing.T) {
	overlap := func(l, m []float64) bool {
		from, to := uintptr(unsafe.Pointer(unsafe.SliceData(l))), uintptr(unsafe.Pointer(unsafe.SliceData(m)))
		return max(from, to) < min(from+8*uintptr(cap(l)), to+8*uintptr(cap(m)))
	}
	for _, l := range someLists() {
		l = longer(l)
		first, second := Sorted(l), Sorted(l)
		if overlap(l, first) || overlap(l, second) || overlap(first, second) {
			t.Error(texts(l))
		}
	}
	s, again := Text(0.1), Text(0.1)
	if unsafe.StringData(s) == unsafe.StringData(again) {
		t.Error("two texts are one")
	}
}
