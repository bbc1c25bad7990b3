package crc

import (
	"hash/crc32"
	"math"
	"math/rand"
	"slices"
	"strings"
	"testing"

	"pannier/api"
)

const ones = math.MaxUint32

// stepped is a number after the step of a byte, by the definition.
func stepped(n uint32, x byte) uint32 {
	n ^= uint32(x)
	for range 8 {
		odd := n&1 == 1
		n /= 2
		if odd {
			n ^= 0xedb88320
		}
	}
	return n
}

// summed is the check sum of bytes, by the definition.
func summed(b []byte) uint32 {
	n := uint32(ones)
	for _, x := range b {
		n = stepped(n, x)
	}
	return n ^ ones
}

// joined is the check sum of two parts, by the definition.
func joined(a, b uint32, length int) uint32 {
	for range length {
		a = stepped(a, 0)
	}
	return a ^ b
}

// before returns four bytes with a check sum: going back from it, the highest bit says in each step whether the number was odd.
func before(sum uint32) []byte {
	n := ^sum
	for range 32 {
		if n >= 1<<31 {
			n = (n^0xedb88320)<<1 | 1
		} else {
			n <<= 1
		}
	}
	// Four steps of a byte are those of 32 bits with which all four bytes were combined before.
	n ^= ones
	return []byte{byte(n), byte(n >> 8), byte(n >> 16), byte(n >> 24)}
}

// random returns some bytes, always the same ones with a seed.
func random(seed int64, size int) []byte {
	b := make([]byte, size)
	rand.New(rand.NewSource(seed)).Read(b)
	return b
}

// lists are some lists of bytes: all short ones, equal bytes, and others.
func lists() [][]byte {
	out := [][]byte{nil, {}, []byte("123456789"), []byte("The quick brown fox jumps over the lazy dog")}
	for a := range 256 {
		out = append(out, []byte{byte(a)})
		for _, b := range []byte{0, 1, 32, 127, 128, 255} {
			out = append(out, []byte{byte(a), b}, []byte{b, byte(a), b})
		}
	}
	for size := range 70 {
		for _, b := range []byte{0, 1, 128, 255} {
			out = append(out, slices.Repeat([]byte{b}, size))
		}
		out = append(out, random(int64(size), size))
	}
	return append(out, random(1, 1000), random(2, 4096), random(3, 1<<16+1))
}

// sums are some numbers: the ends, each with one bit, and others.
func sums() []uint32 {
	out := []uint32{0, 1, 2, 7, 255, 0xd202ef8d, 0xcbf43926, 0xedb88320, 0x12345678, ones - 1, ones}
	for k := range 32 {
		out = append(out, 1<<k, ones^1<<k)
	}
	r := rand.New(rand.NewSource(5))
	for range 50 {
		out = append(out, r.Uint32())
	}
	return out
}

// P5.1: check sums that are known.
func TestKnownSums(t *testing.T) {
	for _, c := range []struct {
		s    string
		want uint32
	}{
		{"", 0}, {"\x00", 0xd202ef8d}, {"a", 0xe8b7be43}, {"abc", 0x352441c2}, {"123456789", 0xcbf43926}, {"\xff", 0xff000000}, {"\xff\xff\xff\xff", ones},
		{"\x00\x00\x00\x00", 0x2144df1c}, {"The quick brown fox jumps over the lazy dog", 0x414fa339}, {strings.Repeat("\x00", 32), 0x190a55ad}, {strings.Repeat("\xff", 32), 0xff6cab0b},
	} {
		if n := Sum([]byte(c.s)); n != c.want {
			t.Errorf("%q %x", c.s, n)
		}
		if n := Update(0, []byte(c.s)); n != c.want {
			t.Errorf("%q %x", c.s, n)
		}
	}
}

// P5.1: check sums by the definition, and by the library's.
func TestSum(t *testing.T) {
	for _, b := range lists() {
		if n := Sum(b); n != summed(b) || n != crc32.ChecksumIEEE(b) {
			t.Errorf("%x %x", b, n)
		}
	}
}

// P5.1: a check sum that goes on, wherever the bytes were cut.
func TestUpdate(t *testing.T) {
	for _, b := range lists() {
		for at := 0; at <= len(b); at += 1 + len(b)/100 {
			if n := Update(summed(b[:at]), b[at:]); n != summed(b) {
				t.Errorf("%x %d %x", b, at, n)
			}
		}
	}
}

// P5.1: Update goes on from every number; there are always four bytes of which it is the check sum.
func TestUpdateOfAnyNumber(t *testing.T) {
	for _, sum := range sums() {
		first := before(sum)
		if n := Sum(first); n != sum {
			t.Fatalf("%x %x %x", sum, first, n)
		}
		for _, b := range [][]byte{nil, {}, {0}, {255}, []byte("a"), []byte("123456789"), random(1, 300)} {
			if n := Update(sum, b); n != summed(slices.Concat(first, b)) || n != crc32.Update(sum, crc32.IEEETable, b) {
				t.Errorf("%x %x %x", sum, b, n)
			}
		}
		if Update(sum, nil) != sum || Update(sum, []byte{}) != sum {
			t.Errorf("%x %x", sum, Update(sum, nil))
		}
	}
}

// P5.2: numbers that are joined, which need not be the sums of anything, and lengths that are not allowed.
func TestJoin(t *testing.T) {
	for _, c := range []struct {
		a, b   uint32
		length int
		want   uint32
		e      api.Errno
	}{
		// No step at all, also for a second part of which no bytes could have this sum.
		{0, 0, 0, 0, api.OK}, {7, 0, 0, 7, api.OK}, {0, 7, 0, 7, api.OK}, {7, 5, 0, 2, api.OK}, {ones, ones, 0, 0, api.OK}, {ones, 0, 0, ones, api.OK},
		// The steps leave 0 as it is.
		{0, 5, 1, 5, api.OK}, {0, 5, 100, 5, api.OK}, {0, 9, MaxLen, 9, api.OK}, {0, ones, MaxLen, ones, api.OK},
		{1, 0, 1, 0x77073096, api.OK}, {7, 0, 1, 0x9e6495a3, api.OK}, {255, 0, 1, 0x2d02ef8d, api.OK}, {255, 0x2d02ef8d, 1, 0, api.OK}, {256, 0, 1, 1, api.OK}, {256, 3, 1, 2, api.OK}, {1 << 31, 0, 3, 128, api.OK}, {256, 0, 2, 0x77073096, api.OK},
		{1, 2, -1, 0, api.ErrArg}, {0, 0, -1, 0, api.ErrArg}, {1, 2, -8, 0, api.ErrArg}, {1, 2, -MaxLen, 0, api.ErrArg}, {1, 2, math.MinInt32, 0, api.ErrArg}, {1, 2, math.MinInt, 0, api.ErrArg},
		{1, 2, MaxLen + 1, 0, api.ErrArg}, {0, 0, MaxLen + 1, 0, api.ErrArg}, {1, 2, 2 * MaxLen, 0, api.ErrArg}, {1, 2, 1 << 32, 0, api.ErrArg}, {1, 2, 1<<32 + 1, 0, api.ErrArg}, {1, 2, math.MaxInt, 0, api.ErrArg},
	} {
		if n, e := Join(c.a, c.b, c.length); n != c.want || e != c.e {
			t.Errorf("%x %v %v", n, e, c)
		}
	}
	if MaxLen != 16777216 {
		t.Error(MaxLen)
	}
}

// P5.2: all short lengths, those around each bit of a length, and the greatest one, step by step.
func TestJoinOfAllLengths(t *testing.T) {
	for i, a := range sums() {
		n := a
		for length := range 600 {
			for _, b := range []uint32{0, 0xcbf43926, a, n} {
				if x, e := Join(a, b, length); x != n^b || e != api.OK {
					t.Fatalf("%d %x %x %d %x %v", i, a, b, length, x, e)
				}
			}
			n = stepped(n, 0)
		}
	}
	const a, b = 0xcbf43926, 0x12345678
	n := uint32(a)
	for length := range MaxLen + 1 {
		// Around each power of two, so that each bit of a length is there alone and with all below it.
		around := length&(length-1) == 0 || (length+1)&length == 0 || (length-1)&(length-2) == 0
		if around || length%99991 == 0 {
			if x, e := Join(a, b, length); x != n^b || e != api.OK {
				t.Fatalf("%d %x %v", length, x, e)
			}
		}
		n = stepped(n, 0)
	}
}

// P5.2: parts of bytes, one after the other, cut anywhere, and in any order.
func TestJoinParts(t *testing.T) {
	for _, b := range lists() {
		for at := 0; at <= len(b); at += 1 + len(b)/100 {
			first, second := b[:at], b[at:]
			if n, e := Join(summed(first), summed(second), len(second)); n != summed(b) || e != api.OK {
				t.Fatalf("%x %d %x %v", b, at, n, e)
			}
			if n, e := Join(summed(second), summed(first), len(first)); n != summed(slices.Concat(second, first)) || e != api.OK {
				t.Fatalf("%x %d %x %v", b, at, n, e)
			}
		}
	}
}

// P5.2: a second part as long as possible, and one byte longer.
func TestJoinTheLongestPart(t *testing.T) {
	second := random(4, MaxLen+1)
	sum := crc32.ChecksumIEEE(second[:MaxLen])
	if n, e := Join(Sum([]byte("123")), sum, MaxLen); n != crc32.ChecksumIEEE(slices.Concat([]byte("123"), second[:MaxLen])) || e != api.OK {
		t.Errorf("%x %v", n, e)
	}
	if n, e := Join(Sum([]byte("123")), crc32.ChecksumIEEE(second), MaxLen+1); n != 0 || e != api.ErrArg {
		t.Errorf("%x %v", n, e)
	}
	// The length of the first part does not matter.
	if n, e := Join(crc32.ChecksumIEEE(second), Sum([]byte("123")), 3); n != crc32.ChecksumIEEE(slices.Concat(second, []byte("123"))) || e != api.OK {
		t.Errorf("%x %v", n, e)
	}
}

// P5.3: texts with zeros in front and with all digits.
func TestTextAndParse(t *testing.T) {
	for _, c := range []struct {
		sum  uint32
		want string
	}{
		{0, "00000000"}, {1, "00000001"}, {9, "00000009"}, {10, "0000000a"}, {15, "0000000f"}, {16, "00000010"}, {0xabc, "00000abc"}, {0x0fffffff, "0fffffff"}, {0x10000000, "10000000"}, {1 << 31, "80000000"}, {1<<31 - 1, "7fffffff"},
		{0x12345678, "12345678"}, {0x9abcdef0, "9abcdef0"}, {0xcbf43926, "cbf43926"}, {0xd202ef8d, "d202ef8d"}, {0xfffffffe, "fffffffe"}, {ones, "ffffffff"},
	} {
		if s := Text(c.sum); s != c.want {
			t.Error(c, s)
		}
		if n, e := Parse(c.want); n != c.sum || e != api.OK {
			t.Error(c, n, e)
		}
	}
}

// P5.3: what is not the text of a check sum.
func TestParseOthers(t *testing.T) {
	for _, s := range []string{
		// Too short or too long, with numbers that are small enough and others.
		"", "0", "a", "cbf4392", "0000000", "fffffff", "cbf439260", "0cbf43926", "000000000", "100000000", "ffffffff0", "cbf43926cbf43926", strings.Repeat("0", 100000), strings.Repeat("f", 100000),
		// Capital letters.
		"D202EF8D", "A0000000", "0000000A", "cbf4392F", "cbF43926", "FFFFFFFF",
		// No digits, or something else with them.
		"g0000000", "0000000g", "d202ef8g", "        ", " cbf43926", "cbf43926 ", " cbf4392", "cbf4392 ", "cbf43926\n", "cbf4392\n", "+cbf4392", "-cbf4392", "-0000001", "+0000000", "0xcbf439", "0Xcbf439", "0xcbf43926", "0o000000", "0b00000x", "cbf_3926", "_cbf4392", "cbf4392_", "1.000000", "1e+00000", "00000000h",
		"\x00\x00\x00\x00\x00\x00\x00\x00", "cbf4392\x00", "cbf43926\x00", "\xff\xff\xff\xff\xff\xff\xff\xff", "cbf439\u00e9", "\uff11\uff12", "1234567\uff18", "00000000\u0000", "sum",
	} {
		if n, e := Parse(s); n != 0 || e != api.ErrFormat {
			t.Errorf("%q %x %v", s, n, e)
		}
	}
}

// P5.3: every byte in every place of a text, in its place, put in, or taken out.
func TestParseChangedTexts(t *testing.T) {
	const digits = "0123456789abcdef"
	for _, s := range []string{"00000000", "cbf43926", "d202ef8d", "ffffffff"} {
		for at := range len(s) {
			for b := range 256 {
				changed := s[:at] + string([]byte{byte(b)}) + s[at+1:]
				digit := strings.IndexByte(digits, byte(b))
				n, e := Parse(changed)
				if digit < 0 && (n != 0 || e != api.ErrFormat) || digit >= 0 && (int(n>>(28-4*at)%16) != digit || e != api.OK || Text(n) != changed) {
					t.Errorf("%q %x %v", changed, n, e)
				}
				longer := s[:at] + string([]byte{byte(b)}) + s[at:]
				if n, e := Parse(longer); n != 0 || e != api.ErrFormat {
					t.Errorf("%q %x %v", longer, n, e)
				}
			}
			shorter := s[:at] + s[at+1:]
			if n, e := Parse(shorter); n != 0 || e != api.ErrFormat {
				t.Errorf("%q %x %v", shorter, n, e)
			}
		}
	}
}

// P5.4: Parse inverts Text, for all numbers with few bits, each byte in each place, and others.
func TestParseInvertsText(t *testing.T) {
	l := sums()
	for i := range 1 << 16 {
		l = append(l, uint32(i), uint32(i)<<16, uint32(i)*0x9e3779b1)
	}
	seen := make(map[string]uint32)
	for _, sum := range l {
		s := Text(sum)
		if n, e := Parse(s); n != sum || e != api.OK {
			t.Fatalf("%x %q %x %v", sum, s, n, e)
		}
		if other, found := seen[s]; found && other != sum {
			t.Fatalf("%x %x %q", sum, other, s)
		}
		seen[s] = sum
	}
}

// P5.4: three parts, cut anywhere, by Update and by Join, from the front and from the back.
func TestThreeParts(t *testing.T) {
	for _, b := range [][]byte{nil, {0}, []byte("123456789"), slices.Repeat([]byte{0}, 20), slices.Repeat([]byte{255}, 20), random(7, 40)} {
		want := Sum(b)
		for i := range len(b) + 1 {
			for j := i; j <= len(b); j++ {
				x, y, z := Sum(b[:i]), Sum(b[i:j]), Sum(b[j:])
				xy, e := Join(x, y, j-i)
				xyz, f := Join(xy, z, len(b)-j)
				yz, g := Join(y, z, len(b)-j)
				all, h := Join(x, yz, len(b)-i)
				if e != api.OK || f != api.OK || g != api.OK || h != api.OK || xyz != want || all != want || xy != Update(x, b[i:j]) || yz != Update(y, b[j:]) {
					t.Errorf("%x %d %d %x %x %x %x", b, i, j, xy, yz, xyz, all)
				}
				if n := Update(Update(x, b[i:j]), b[j:]); n != want {
					t.Errorf("%x %d %d %x", b, i, j, n)
				}
			}
		}
	}
}

// P5.4: parts of many lengths, by Update and by Join, both of which need no byte of the first part.
func TestUpdateIsJoin(t *testing.T) {
	r := rand.New(rand.NewSource(11))
	for range 2000 {
		b := random(r.Int63(), r.Intn(2000))
		sum := r.Uint32()
		n, e := Join(sum, Sum(b), len(b))
		if want := Update(sum, b); n != want || e != api.OK {
			t.Fatalf("%x %d %x %x %v", sum, len(b), want, n, e)
		}
	}
}

// P5.4: changing one bit or one byte changes the check sum, in every place and to every other byte.
func TestChangedBitsAndBytes(t *testing.T) {
	for _, b := range [][]byte{{0}, {255}, []byte("a"), []byte("123456789"), slices.Repeat([]byte{0}, 64), slices.Repeat([]byte{255}, 64), random(8, 100), random(9, 300)} {
		was := Sum(b)
		for at := range b {
			seen := map[uint32]bool{was: true}
			for change := 1; change < 256; change++ {
				changed := slices.Clone(b)
				changed[at] ^= byte(change)
				n := Sum(changed)
				// Bytes that differ in one place alone have different sums, whichever two of them are taken.
				if seen[n] {
					t.Fatalf("%x %d %d %x", b, at, change, n)
				}
				seen[n] = true
			}
		}
	}
	long := random(10, 1<<16)
	was := Sum(long)
	for bit := 0; bit < 8*len(long); bit += 4001 {
		long[bit/8] ^= 1 << (bit % 8)
		if Sum(long) == was {
			t.Error(bit)
		}
		long[bit/8] ^= 1 << (bit % 8)
	}
}

// P5.4: a sum that is changed in one bit stays another one, whatever follows.
func TestChangedSums(t *testing.T) {
	b := random(12, 300)
	for _, sum := range sums() {
		for k := range 32 {
			n, e := Join(sum, 0, len(b))
			m, f := Join(sum^1<<k, 0, len(b))
			if Update(sum, b) == Update(sum^1<<k, b) || n == m || e != api.OK || f != api.OK {
				t.Errorf("%x %d %x %v", sum, k, n, e)
			}
		}
	}
}

// The rules: bytes are neither changed nor kept, and nothing depends on earlier calls or on the room behind bytes.
func TestBytesAreNotChanged(t *testing.T) {
	back := random(13, 300)
	b := back[:200]
	given := slices.Clone(back)
	first, second := Sum(b), Update(5, b)
	if !slices.Equal(back, given) {
		t.Fatal("changed")
	}
	for range 3 {
		Join(first, second, 77)
		Update(second, back[200:])
		if Sum(b) != first || Update(5, b) != second || Sum(slices.Clone(b)) != first || Sum(slices.Clip(b)) != first {
			t.Error(Sum(b), Update(5, b))
		}
	}
	clear(b)
	if Sum(b) != summed(make([]byte, 200)) || Sum(given[:200]) != first {
		t.Error("kept")
	}
}
