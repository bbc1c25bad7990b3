package hash

import (
	"hash/fnv"
	"math"
	"math/big"
	"math/rand"
	"slices"
	"strconv"
	"strings"
	"testing"

	"pannier/api"
)

// hashed is the hash of a string by the definition, in numbers without a limit.
func hashed(s string, offset, factor uint64, bits uint) uint64 {
	n, times := new(big.Int).SetUint64(offset), new(big.Int).SetUint64(factor)
	modulus := new(big.Int).Lsh(big.NewInt(1), bits)
	for i := range len(s) {
		n.Xor(n, big.NewInt(int64(s[i])))
		n.Mul(n, times)
		n.Mod(n, modulus)
	}
	return n.Uint64()
}

func hashed32(s string) uint32 { return uint32(hashed(s, 2166136261, 16777619, 32)) }
func hashed64(s string) uint64 { return hashed(s, 14695981039346656037, 1099511628211, 64) }

// placed is the stripe of a key by the definition.
func placed(key string, stripes int) int { return int(int64(hashed32(key)) % int64(stripes)) }

// random returns a string of some bytes, always the same one with a seed.
func random(seed int64, size int) string {
	b := make([]byte, size)
	rand.New(rand.NewSource(seed)).Read(b)
	return string(b)
}

// texts are some strings: all of one byte, short ones, equal bytes, and others, many of which are not UTF-8 text.
func texts() []string {
	out := []string{"", "foobar", "raboof", "Foobar", "foobar\x00", "\x00foobar", "\u00e9", "e\u0301", "\u20ac", "\U0001f6d2", "\ufffd", "\xc3", "\xe2\x82", "\xf0\x9f\x9b", "\xc0\x80", "\xed\xa0\x80", "\xff\xfe", "a\xffb", strings.Repeat("k", api.MaxKey), strings.Repeat("k", api.MaxKey+1)}
	for a := range 256 {
		out = append(out, string([]byte{byte(a)}))
		for _, b := range []byte{0, 1, 'a', 127, 128, 255} {
			out = append(out, string([]byte{byte(a), b}), string([]byte{b, byte(a), b}))
		}
	}
	for size := 2; size < 70; size++ {
		for _, b := range []byte{0, 1, 128, 255} {
			out = append(out, string(slices.Repeat([]byte{b}, size)))
		}
		out = append(out, random(int64(size), size))
	}
	return append(out, zero32, zero32+"a", zero64, zero64+"a", random(1, 1000), random(2, 4096))
}

// The hashes of these are 0.
const (
	zero32 = "\xcc\x24\x31\xc4"
	zero64 = "\xd5\x6b\xb9\x53\x42\x87\x08\x36"
)

// numbers are numbers of stripes that are allowed: all small ones, those around the powers of two, and the greatest ones.
func numbers() []int {
	out := []int{1000, 1023, 1024, 997}
	for n := 1; n <= 40; n++ {
		out = append(out, n)
	}
	for n := 64; n < 1024; n *= 2 {
		out = append(out, n-1, n, n+1)
	}
	return out
}

// wrong are numbers of stripes that are not allowed; some of them would be, if they were cut to 32 or 16 bits.
func wrong() []int {
	return []int{0, -1, -2, -16, -1023, -1024, -1025, 1025, 1026, 2048, 65535, 1 << 16, 1<<16 + 16, math.MaxInt32, 1<<32 - 1, 1 << 32, 1<<32 + 1, 1<<32 + 16, -1 << 32, 16 - 1<<32, math.MinInt32, math.MaxInt, math.MinInt, math.MinInt + 16}
}

// lists are some lists of keys: none, equal ones, many of one stripe, and others.
func lists() [][]string {
	out := [][]string{nil, {}, {""}, {"", ""}, {"a"}, {"a", "a"}, {"foobar", "a", "a"}, {"a", "foobar", "a"}, {"a", "A", ""}, {zero32}, {"\xff", "\xc3\xa9", "\xff"}, slices.Repeat([]string{"a"}, 1000), texts()}
	for size := 1; size <= 2000; size = size*2 + 1 {
		var l []string
		for i := range size {
			l = append(l, "k"+strconv.Itoa(i*i%1999))
		}
		out = append(out, l)
	}
	return append(out, together("k", 5, 1024, 20), together("", 0, 16, 300), together("\xff", 15, 16, 300))
}

// together returns different keys with the same stripe.
func together(front string, stripe, stripes, size int) []string {
	var out []string
	for i := 0; len(out) < size; i++ {
		if key := front + strconv.Itoa(i); placed(key, stripes) == stripe {
			out = append(out, key)
		}
	}
	return out
}

// P6.1: hashes that are known.
func TestKnownSums(t *testing.T) {
	for _, c := range []struct {
		s    string
		want uint32
		long uint64
	}{
		{"", 0x811c9dc5, 0xcbf29ce484222325},
		{"a", 0xe40c292c, 0xaf63dc4c8601ec8c},
		{"b", 0xe70c2de5, 0xaf63df4c8601f1a5},
		{"c", 0xe60c2c52, 0xaf63de4c8601eff2},
		{"foobar", 0xbf9cf968, 0x85944171f73967e8},
		{"\x00", 0x050c5d1f, 0xaf63bd4c8601b7df},
		{"\xff", 0x7a0b824e, 0xaf64724c8602eb6e},
		{"chongo was here!\n", 0xd49930d5, 0x46810940eff5f915},
	} {
		if n := Sum32(c.s); n != c.want {
			t.Errorf("%q %x", c.s, n)
		}
		if n := Sum64(c.s); n != c.long {
			t.Errorf("%q %x", c.s, n)
		}
	}
}

// P6.1: hashes by the definition, and by the library's.
func TestSums(t *testing.T) {
	for _, s := range texts() {
		short, long := fnv.New32a(), fnv.New64a()
		short.Write([]byte(s))
		long.Write([]byte(s))
		if n := Sum32(s); n != hashed32(s) || n != short.Sum32() {
			t.Fatalf("%q %x", s, n)
		}
		if n := Sum64(s); n != hashed64(s) || n != long.Sum64() {
			t.Fatalf("%q %x", s, n)
		}
	}
}

// P6.1: a hash that is 0 on the way is one like others: the bytes behind it go on from 0.
func TestSumsOfZero(t *testing.T) {
	for _, c := range []struct {
		s     string
		short uint32
		long  uint64
	}{{zero32, 0, hashed64(zero32)}, {zero32 + "\x00", 0, hashed64(zero32 + "\x00")}, {zero32 + "a", 'a' * 16777619, hashed64(zero32 + "a")}, {zero64, hashed32(zero64), 0}, {zero64 + "\x00\x00", hashed32(zero64 + "\x00\x00"), 0}, {zero64 + "a", hashed32(zero64 + "a"), 'a' * 1099511628211}} {
		if n, m := Sum32(c.s), Sum64(c.s); n != c.short || m != c.long {
			t.Errorf("%q %x %x", c.s, n, m)
		}
	}
}

// P6.1: strings of the same length that differ in one byte have different hashes, in every place and with every other byte.
func TestSumsOfChangedStrings(t *testing.T) {
	for _, s := range []string{"\x00", "a", "foobar", "\xff\xff\xff", "\u20ac", strings.Repeat("\x00", 40), random(3, 64), random(4, 200)} {
		for at := range len(s) {
			short, long := make(map[uint32]bool), make(map[uint64]bool)
			for b := range 256 {
				changed := s[:at] + string([]byte{byte(b)}) + s[at+1:]
				n, m := Sum32(changed), Sum64(changed)
				if short[n] || long[m] {
					t.Fatalf("%q %x %x", changed, n, m)
				}
				short[n], long[m] = true, true
			}
		}
	}
}

// P6.1: long strings, which the hashes go through to their ends.
func TestSumsOfLongStrings(t *testing.T) {
	s := random(5, 1<<20)
	short, long := fnv.New32a(), fnv.New64a()
	short.Write([]byte(s))
	long.Write([]byte(s))
	if n, m := Sum32(s), Sum64(s); n != short.Sum32() || m != long.Sum64() {
		t.Errorf("%x %x", n, m)
	}
	if changed := s[:len(s)-1] + string([]byte{s[len(s)-1] ^ 1}); Sum32(changed) == Sum32(s) || Sum64(changed) == Sum64(s) {
		t.Error("the last byte")
	}
	if changed := string([]byte{s[0] ^ 1}) + s[1:]; Sum32(changed) == Sum32(s) || Sum64(changed) == Sum64(s) {
		t.Error("the first byte")
	}
}

// P6.2: stripes that are known.
func TestKnownStripes(t *testing.T) {
	if MaxStripes != 1024 {
		t.Error(MaxStripes)
	}
	for _, c := range []struct {
		key           string
		stripes, want int
	}{
		{"a", 16, 12}, {"a", 256, 44}, {"a", 1, 0}, {"a", 1024, 300}, {"a", 1023, 634}, {"a", 2, 0}, {"a", 3, 1}, {"a", 7, 5},
		{"foobar", 16, 8}, {"foobar", 1, 0}, {"foobar", 1024, 360}, {"foobar", 10, 0}, {"", 16, 5}, {"", 1, 0}, {"", 1024, 453}, {"", 10, 1}, {"\xff", 16, 14}, {"\xff", 1024, 590},
		{zero32, 1, 0}, {zero32, 16, 0}, {zero32, 1000, 0}, {zero32, 1024, 0},
	} {
		if n, e := Stripe(c.key, c.stripes); n != c.want || e != api.OK {
			t.Errorf("%q %d %d %v", c.key, c.stripes, n, e)
		}
	}
}

// P6.2: the stripes of all kinds of keys, also of those that layer 7 does not allow, by the definition.
func TestStripe(t *testing.T) {
	for _, key := range texts() {
		for _, stripes := range numbers() {
			if n, e := Stripe(key, stripes); n != placed(key, stripes) || e != api.OK {
				t.Fatalf("%q %d %d %v", key, stripes, n, e)
			}
		}
	}
}

// P6.2: every number that is allowed, and those below and above.
func TestAllNumbersOfStripes(t *testing.T) {
	keys := []string{"foobar", "a", "", "\xff"}
	for stripes := -50; stripes <= MaxStripes+50; stripes++ {
		want := api.OK
		if stripes < 1 || stripes > 1024 {
			want = api.ErrArg
		}
		_, e := Stripe("a", stripes)
		_, f := Order(keys, stripes)
		spread, g := Spread(keys, stripes)
		if e != want || f != want || g != want || want == api.OK && len(spread) != stripes {
			t.Error(stripes, e, f, g, len(spread))
		}
	}
}

// P6.2: numbers of stripes that are not allowed, whatever keys there are, or none.
func TestErrors(t *testing.T) {
	for _, stripes := range wrong() {
		for _, key := range []string{"", "a", "foobar", "\xff", zero32} {
			if n, e := Stripe(key, stripes); n != 0 || e != api.ErrArg {
				t.Fatalf("%q %d %d %v", key, stripes, n, e)
			}
		}
		for _, keys := range lists() {
			if l, e := Order(keys, stripes); len(l) != 0 || e != api.ErrArg {
				t.Fatal(len(keys), stripes, l, e)
			}
			if l, e := Spread(keys, stripes); len(l) != 0 || e != api.ErrArg {
				t.Fatal(len(keys), stripes, l, e)
			}
		}
	}
}

// P6.2: Order and Spread of lists that are known.
func TestKnownLists(t *testing.T) {
	for _, c := range []struct {
		keys          []string
		stripes       int
		order, spread []int
	}{
		{nil, 2, nil, []int{0, 0}}, {[]string{}, 4, nil, []int{0, 0, 0, 0}}, {nil, 1, nil, []int{0}}, {nil, 1024, nil, make([]int, 1024)},
		{[]string{"foobar", "a", "a"}, 16, []int{8, 12}, []int{0, 0, 0, 0, 0, 0, 0, 0, 1, 0, 0, 0, 2, 0, 0, 0}},
		{[]string{"a", "foobar", "a"}, 16, []int{8, 12}, []int{0, 0, 0, 0, 0, 0, 0, 0, 1, 0, 0, 0, 2, 0, 0, 0}},
		{[]string{"foobar", "a", "a"}, 4, []int{0}, []int{3, 0, 0, 0}}, {[]string{"foobar", "a", ""}, 4, []int{0, 1}, []int{2, 1, 0, 0}}, {[]string{"", "a"}, 2, []int{0, 1}, []int{1, 1}},
		{[]string{"foobar", "a", ""}, 1, []int{0}, []int{3}}, {[]string{"", ""}, 3, []int{1}, []int{0, 2, 0}}, {[]string{"\xff", "a"}, 4, []int{0, 2}, []int{1, 0, 1, 0}}, {[]string{""}, 10, []int{1}, []int{0, 1, 0, 0, 0, 0, 0, 0, 0, 0}},
	} {
		if l, e := Order(c.keys, c.stripes); !slices.Equal(l, c.order) || e != api.OK {
			t.Errorf("%q %d %v %v", c.keys, c.stripes, l, e)
		}
		if l, e := Spread(c.keys, c.stripes); !slices.Equal(l, c.spread) || e != api.OK {
			t.Errorf("%q %d %v %v", c.keys, c.stripes, l, e)
		}
	}
}

// P6.2: Order and Spread of lists of all kinds, by the definition.
func TestOrderAndSpread(t *testing.T) {
	for i, keys := range lists() {
		var all []uint32
		for _, key := range keys {
			all = append(all, hashed32(key))
		}
		for _, stripes := range numbers() {
			spread := make([]int, stripes)
			var order []int
			for _, n := range all {
				at := int(n % uint32(stripes))
				spread[at]++
				order = append(order, at)
			}
			slices.Sort(order)
			order = slices.Compact(order)
			if l, e := Order(keys, stripes); !slices.Equal(l, order) || e != api.OK {
				t.Fatal(i, stripes, l, e)
			}
			if l, e := Spread(keys, stripes); !slices.Equal(l, spread) || e != api.OK {
				t.Fatal(i, stripes, l, e)
			}
		}
	}
}

// P6.2: many different keys of one stripe.
func TestKeysOfOneStripe(t *testing.T) {
	for _, c := range []struct{ stripe, stripes, size int }{{0, 1, 2000}, {0, 16, 500}, {15, 16, 500}, {1023, 1024, 30}, {0, 1024, 30}, {500, 1000, 30}} {
		keys := together("k", c.stripe, c.stripes, c.size)
		want := make([]int, c.stripes)
		want[c.stripe] = c.size
		if l, e := Order(keys, c.stripes); !slices.Equal(l, []int{c.stripe}) || e != api.OK {
			t.Error(c, l, e)
		}
		if l, e := Spread(keys, c.stripes); !slices.Equal(l, want) || e != api.OK {
			t.Error(c, l, e)
		}
		// One more key, of another stripe, is not lost among them.
		if c.stripes > 1 {
			other := together("other", (c.stripe+1)%c.stripes, c.stripes, 1)
			order := []int{c.stripe, (c.stripe + 1) % c.stripes}
			slices.Sort(order)
			if l, e := Order(slices.Concat(keys, other, keys), c.stripes); !slices.Equal(l, order) || e != api.OK {
				t.Error(c, l, e)
			}
		}
	}
}

// P6.3: stripes are from 0 to one less than their number, and equal keys have the same stripe, even if they lie elsewhere.
func TestStripesAreInRange(t *testing.T) {
	for _, key := range texts() {
		for _, stripes := range numbers() {
			n, e := Stripe(key, stripes)
			m, f := Stripe(strings.Clone(key), stripes)
			if n < 0 || n >= stripes || n != m || e != api.OK || f != api.OK {
				t.Fatalf("%q %d %d %d %v %v", key, stripes, n, m, e, f)
			}
		}
	}
}

// P6.3: the numbers of Spread are together that of the keys, and Order has just the stripes that have keys, those that Stripe returns.
func TestConsequences(t *testing.T) {
	for i, keys := range lists() {
		for _, stripes := range numbers() {
			order, e := Order(keys, stripes)
			spread, f := Spread(keys, stripes)
			if e != api.OK || f != api.OK || len(spread) != stripes || !slices.IsSorted(order) {
				t.Fatal(i, stripes, order, spread, e, f)
			}
			sum := 0
			for stripe, n := range spread {
				sum += n
				if slices.Contains(order, stripe) != (n > 0) || n < 0 {
					t.Fatal(i, stripes, stripe, n, order)
				}
			}
			if sum != len(keys) || len(slices.Compact(slices.Clone(order))) != len(order) || len(order) > min(stripes, len(keys)) {
				t.Fatal(i, stripes, sum, order)
			}
			for _, key := range keys {
				if n, _ := Stripe(key, stripes); !slices.Contains(order, n) {
					t.Fatalf("%d %d %q %d %v", i, stripes, key, n, order)
				}
			}
		}
	}
}

// P6.3: neither the order of keys matters for Order and Spread, nor, for Order, how often each of them is there.
func TestShuffledKeys(t *testing.T) {
	r := rand.New(rand.NewSource(6))
	for i, keys := range lists() {
		shuffled := slices.Clone(keys)
		r.Shuffle(len(shuffled), func(a, b int) { shuffled[a], shuffled[b] = shuffled[b], shuffled[a] })
		for _, stripes := range []int{1, 4, 16, 1000, 1024} {
			order, _ := Order(keys, stripes)
			spread, _ := Spread(keys, stripes)
			other, e := Order(slices.Concat(shuffled, keys, shuffled), stripes)
			same, f := Spread(shuffled, stripes)
			if !slices.Equal(order, other) || !slices.Equal(spread, same) || e != api.OK || f != api.OK {
				t.Error(i, stripes, order, other, spread, same)
			}
		}
	}
}

// The rules: keys are neither changed nor kept, results are new memory, and nothing depends on earlier calls.
func TestNewMemory(t *testing.T) {
	back := []string{"foobar", "a", "", "a", "more", "keys"}
	keys, given := back[:4], slices.Clone(back)
	const stripes = 16
	order, _ := Order(keys, stripes)
	spread, _ := Spread(keys, stripes)
	wantOrder, wantSpread := slices.Clone(order), slices.Clone(spread)
	first, second := Sum32("a"), Sum64("a")
	for range 3 {
		for i := range order {
			order[i] = -1
		}
		for i := range spread {
			spread[i] = -1
		}
		_ = append(order, -1, -1, -1)
		_ = append(spread, -1, -1, -1)
		Order([]string{"b", "c"}, 1024)
		Spread(nil, 0)
		order, _ = Order(keys, stripes)
		spread, _ = Spread(keys, stripes)
		if !slices.Equal(order, wantOrder) || !slices.Equal(spread, wantSpread) || Sum32("a") != first || Sum64("a") != second {
			t.Error(order, spread)
		}
	}
	if !slices.Equal(back, given) {
		t.Fatal("changed", back)
	}
	for i := range keys {
		keys[i] = "a"
	}
	if order, _ := Order(keys, stripes); !slices.Equal(order, []int{12}) {
		t.Error("kept", order)
	}
}
