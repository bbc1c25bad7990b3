package names

import (
	"fmt"
	"math/rand"
	"regexp"
	"slices"
	"strings"
	"testing"
	"unsafe"

	"pannier/api"
)

// all are all strings of at most some bytes out of a few.
func all(most int, few string) []string {
	out := []string{""}
	for from, n := 0, 0; n < most; n++ {
		to := len(out)
		for _, s := range out[from:to] {
			for i := range len(few) {
				out = append(out, s+few[i:i+1])
			}
		}
		from = to
	}
	return out
}

// one is the string of one byte.
func one(b int) string { return string([]byte{byte(b)}) }

// random returns a string of some bytes out of a few, always the same one with a source in the same state.
func random(r *rand.Rand, size int, few string) string {
	b := make([]byte, size)
	for i := range b {
		b[i] = few[r.Intn(len(few))]
	}
	return string(b)
}

// every is all bytes.
func every() string {
	b := make([]byte, 256)
	for i := range b {
		b[i] = byte(i)
	}
	return string(b)
}

// texts are some strings: all of one byte, those in which it stands between others, before and behind them, short ones, long ones, and others, many of which are not UTF-8 text.
func texts() []string {
	out := []string{"", "Red apple", " Red\t apple\n", "cart/1", "x41", "\\x41", "\u00e9", "e\u0301", "\u20ac", "\U0001f6d2", "\ufffd", "\u00a0", "a\u00a0b", "\u0085", "\u2003", "\u3000", "\xc3", "\xe2\x82", "\xf0\x9f\x9b", "\xc0\xa0", "\xed\xa0\x80", "a\xffb", every(), strings.Repeat("\\", 99), strings.Repeat("\"", 99)}
	for b := range 256 {
		c := one(b)
		out = append(out, c, c+"a", "a"+c, "a"+c+"b", c+c, "a"+c+c+"b", "a "+c, c+" b", "a"+c+" b", "a "+c+"b", "a "+c+" b", "\""+c+"\"", "\\"+c)
	}
	for size := 60; size < 70; size++ {
		out = append(out, strings.Repeat("k", size), strings.Repeat("~", size), strings.Repeat(" ", size), strings.Repeat("a ", size)[:size], strings.Repeat("\u00e9", size)[:size], " "+strings.Repeat("n", size), strings.Repeat("n", size)+"\n")
	}
	r := rand.New(rand.NewSource(7))
	for size := range 100 {
		out = append(out, random(r, size, every()), random(r, size, "a \\\"x01f\n\xff"), random(r, size, "ab \t\r\n"), random(r, size, "az09-_./"))
	}
	return append(out, all(5, "a \t\"")...)
}

// The definitions of keys, of names, of strings in quotes and of fields, as patterns.
var (
	keys   = regexp.MustCompile(`\A[a-z0-9_./-]{1,64}\z`)
	items  = regexp.MustCompile(`\A[!-~]+( [!-~]+)*\z`)
	inside = `(?:[ !#-\[\]-~]|\\["\\]|\\x[01][0-9a-f]|\\x7f|\\x[89a-f][0-9a-f])*`
	quoted = regexp.MustCompile(`\A"` + inside + `"\z`)
	field  = regexp.MustCompile(`"` + inside + `"|[^ "]+`)
	line   = regexp.MustCompile(`\A *(?:(?:` + field.String() + `)(?: +(?:` + field.String() + `))*)? *\z`)
)

func isItem(s string) bool { return len(s) <= 64 && items.MatchString(s) }

// canonical is what a string becomes, by the definition, byte by byte.
func canonical(s string) string {
	out, gap := "", false
	for i := range len(s) {
		switch s[i] {
		case 9, 10, 13, 32:
			gap = out != ""
		default:
			if gap {
				out += " "
			}
			out, gap = out+s[i:i+1], false
		}
	}
	return out
}

// inQuotes is a string in quotes, by the definition.
func inQuotes(s string) string {
	out := "\""
	for i := range len(s) {
		switch c := s[i]; {
		case c == 34 || c == 92:
			out += "\\" + s[i:i+1]
		case c < 32 || c > 126:
			out += fmt.Sprintf("\\x%02x", c)
		default:
			out += s[i : i+1]
		}
	}
	return out + "\""
}

// meant is the string of a string in quotes, and whether it is one, by the definition.
func meant(q string) (string, bool) {
	if !quoted.MatchString(q) {
		return "", false
	}
	var out []byte
	for q = q[1 : len(q)-1]; q != ""; {
		c, size := q[0], 1
		if c == '\\' && q[1] == 'x' {
			fmt.Sscanf(q[2:4], "%02x", &c)
			size = 4
		} else if c == '\\' {
			c, size = q[1], 2
		}
		out, q = append(out, c), q[size:]
	}
	return string(out), true
}

// parted is the strings that the fields of a line stand for, and whether it consists of fields, by the definition.
func parted(s string) ([]string, bool) {
	if !line.MatchString(s) {
		return nil, false
	}
	var out []string
	for _, f := range field.FindAllString(s, -1) {
		if f[0] == '"' {
			f, _ = meant(f)
		}
		out = append(out, f)
	}
	return out, true
}

func checkUnquote(t *testing.T, q string) {
	t.Helper()
	want, good := meant(q)
	s, e := Unquote(q)
	if s != want || good && e != api.OK || !good && e != api.ErrFormat {
		t.Fatalf("Unquote %q %q %v", q, s, e)
	}
}

func checkFields(t *testing.T, s string) {
	t.Helper()
	want, good := parted(s)
	l, e := Fields(s)
	if !slices.Equal(l, want) || good && e != api.OK || !good && (l != nil || e != api.ErrFormat) {
		t.Fatalf("Fields %q %q %v", s, l, e)
	}
}

// P7.1: each single byte alone, and within a key.
func TestBytesOfKeys(t *testing.T) {
	const allowed = "abcdefghijklmnopqrstuvwxyz0123456789-_./"
	for b := range 256 {
		c := one(b)
		want := strings.Contains(allowed, c)
		for _, s := range []string{c, c + "a", "a" + c, "cart" + c + "1", strings.Repeat("k", 63) + c, c + strings.Repeat("k", 63)} {
			if Key(s) != want {
				t.Errorf("%q %v", s, !want)
			}
		}
	}
}

// P7.1: each single byte alone, and within a name, where a space is allowed, but not at the ends.
func TestBytesOfItems(t *testing.T) {
	for b := range 256 {
		c := one(b)
		inner := 32 <= b && b <= 126
		ends := 33 <= b && b <= 126
		for _, s := range []string{c, c + "a", "a" + c, "a " + c, c + " a", "a " + c + " b", "a" + c + " b", "a " + c + "b", c + strings.Repeat("n", 63), strings.Repeat("n", 63) + c} {
			if Item(s) != ends {
				t.Errorf("%q %v", s, !ends)
			}
		}
		for _, s := range []string{"a" + c + "b", "a b" + c + "c d", "a" + c + strings.Repeat("n", 62)} {
			if Item(s) != inner {
				t.Errorf("%q %v", s, !inner)
			}
		}
	}
}

// P7.1: from no bytes to more than 64; it is bytes that count, not characters.
func TestLengths(t *testing.T) {
	for size := range 200 {
		want := 1 <= size && size <= 64
		if s := strings.Repeat("k", size); Key(s) != want || Item(s) != want {
			t.Error(size, Key(s), Item(s))
		}
	}
	for _, size := range []int{1 << 8, 1<<8 + 1, 1 << 16, 1<<16 + 1, 1 << 20} {
		s := strings.Repeat("k", size)
		if x, e := Canon(s); Key(s) || Item(s) || x != "" || e != api.ErrArg {
			t.Error(size, len(x), e)
		}
	}
	const word = "1234567 " // eight bytes with the space
	if s := strings.Repeat(word, 8)[:63]; !Item(s) || !Item(s+"8") || Item(s+" ") || Item(s+"89") {
		t.Errorf("%q", s)
	}
	if Key(strings.Repeat("\u00e9", 32)) || Item(strings.Repeat("\u00e9", 32)) {
		t.Error("characters of two bytes")
	}
}

// P7.1: keys and names that are known.
func TestKnownNames(t *testing.T) {
	for _, c := range []struct {
		s         string
		key, item bool
	}{
		{"", false, false}, {"cart/1", true, true}, {"Cart", false, true}, {"/", true, true}, {"..", true, true}, {"a/../b", true, true}, {"-_./", true, true}, {"0", true, true}, {"a b", false, true}, {"a:b", false, true}, {"a`b", false, true}, {"a{b", false, true}, {"a,b", false, true},
		{"Red apple", false, true}, {"Red  apple", false, false}, {" x", false, false}, {"x ", false, false}, {" ", false, false}, {"  ", false, false}, {"a b c", false, true}, {"a b  c", false, false}, {"a b c ", false, false}, {"\"a\"", false, true}, {"\\", false, true}, {"~ !", false, true},
		{"a\tb", false, false}, {"a\nb", false, false}, {"a\n", false, false}, {"\na", false, false}, {"a\r", false, false}, {"a\x00", false, false}, {"a\x7f", false, false}, {"\u00e9", false, false}, {"e\u0301", false, false}, {"a\u00a0b", false, false}, {"\xff", false, false}, {"a\xff", false, false}, {"\xe1", false, false},
	} {
		if key, item := Key(c.s), Item(c.s); key != c.key || item != c.item {
			t.Errorf("%q %v %v", c.s, key, item)
		}
	}
}

// P7.1: all kinds of strings, by the definitions.
func TestNames(t *testing.T) {
	for _, s := range texts() {
		if Key(s) != keys.MatchString(s) || Item(s) != isItem(s) {
			t.Fatalf("%q %v %v", s, Key(s), Item(s))
		}
	}
}

// P7.1: names that are made canonical, and what does not become a name.
func TestKnownCanon(t *testing.T) {
	for _, c := range []struct{ s, want string }{
		{" Red\t apple\n", "Red apple"}, {"Red apple", "Red apple"}, {"x", "x"}, {" x ", "x"}, {"\tx", "x"}, {"\nx", "x"}, {"\rx", "x"}, {"x\t", "x"}, {"x\r\n", "x"}, {"a\tb", "a b"}, {"a\nb", "a b"}, {"a\rb", "a b"}, {"a b", "a b"}, {"a \t\r\n b", "a b"}, {"\r\n\t a\t\tb\n\nc\r\rd  e \t", "a b c d e"}, {"RED", "RED"}, {"\"a  b\"", "\"a b\""}, {"\\t", "\\t"},
		{"", ""}, {" ", ""}, {"    ", ""}, {"\t\n\r ", ""}, {"\u00e9", ""}, {" \u00e9 ", ""}, {"a\x00b", ""}, {"\x00", ""}, {"a\x0bb", ""}, {"a\x0cb", ""}, {"\x0ba", ""}, {"a\x0c", ""}, {"a\x7f", ""}, {"a\u00a0b", ""}, {"a\u0085b", ""}, {"a\u2003b", ""}, {"\u3000a", ""}, {"a\xa0b", ""}, {"a\x85b", ""}, {"\xff", ""}, {"a \xff b", ""},
		{strings.Repeat(" ", 90) + "a", "a"}, {"a" + strings.Repeat("\n", 1<<16) + "b", "a b"}, {strings.Repeat("n", 64) + " ", strings.Repeat("n", 64)}, {strings.Repeat("n", 65), ""}, {strings.Repeat("n", 64) + " n", ""}, {strings.Repeat("n", 31) + " \t " + strings.Repeat("n", 32), strings.Repeat("n", 31) + " " + strings.Repeat("n", 32)}, {strings.Repeat("n", 32) + " \t " + strings.Repeat("n", 32), ""}, {strings.Repeat("n ", 32), strings.Repeat("n ", 32)[:63]}, {strings.Repeat("n ", 33), ""},
	} {
		want := api.OK
		if c.want == "" {
			want = api.ErrArg
		}
		if x, e := Canon(c.s); x != c.want || e != want {
			t.Errorf("%q %q %v", c.s, x, e)
		}
	}
}

// P7.1: all kinds of strings, by the definition.
func TestCanon(t *testing.T) {
	for _, s := range append(texts(), all(5, "a \t\r\n\x0b")...) {
		want, e := canonical(s), api.OK
		if !isItem(want) {
			want, e = "", api.ErrArg
		}
		if x, f := Canon(s); x != want || f != e {
			t.Fatalf("%q %q %v", s, x, f)
		}
	}
}

// P7.1: which bytes separate words, and which are part of a name or spoil it.
func TestSeparators(t *testing.T) {
	for b := range 256 {
		want, e := "", api.ErrArg
		switch {
		case b == 9 || b == 10 || b == 13 || b == 32:
			want, e = "a b", api.OK
		case 32 < b && b < 127:
			want, e = "a"+one(b)+"b", api.OK
		}
		if x, f := Canon("a" + one(b) + "b"); x != want || f != e {
			t.Errorf("%d %q %v", b, x, f)
		}
	}
}

// P7.2: strings in quotes that are known.
func TestKnownQuotes(t *testing.T) {
	for _, c := range []struct{ s, q string }{
		{"", `""`}, {"a", `"a"`}, {" ", `" "`}, {"Red  apple ", `"Red  apple "`}, {"a\"b\\c\n", `"a\"b\\c\x0a"`}, {"\"", `"\""`}, {"\\", `"\\"`}, {"\\\"", `"\\\""`}, {"\"\"", `"\"\""`}, {"\\\\", `"\\\\"`}, {"\\x41", `"\\x41"`}, {"\\n", `"\\n"`}, {"x41", `"x41"`}, {"'", `"'"`}, {"`", "\"`\""}, {"~", `"~"`},
		{"\x00", `"\x00"`}, {"\x1f", `"\x1f"`}, {"\x7f", `"\x7f"`}, {"\x80", `"\x80"`}, {"\xff", `"\xff"`}, {"\t\r\n", `"\x09\x0d\x0a"`}, {"\a\b\v\f", `"\x07\x08\x0b\x0c"`}, {"\u00e9", `"\xc3\xa9"`}, {"\ufffd", `"\xef\xbf\xbd"`}, {"\U0001f6d2", `"\xf0\x9f\x9b\x92"`}, {"\xc3", `"\xc3"`}, {"\x000", `"\x000"`}, {"\x0a\x0a", `"\x0a\x0a"`}, {"\xffa", `"\xffa"`},
	} {
		if q := Quote(c.s); q != c.q {
			t.Errorf("%q %s", c.s, q)
		}
		if s, e := Unquote(c.q); s != c.s || e != api.OK {
			t.Errorf("%s %q %v", c.q, s, e)
		}
	}
}

// P7.2: all kinds of strings, by the definition.
func TestQuote(t *testing.T) {
	for _, s := range texts() {
		if q := Quote(s); q != inQuotes(s) {
			t.Fatalf("%q %s", s, q)
		}
	}
}

// P7.2: what is not in quotes, or not as Quote writes it, among it other ways in which Go writes strings.
func TestNotQuoted(t *testing.T) {
	for _, q := range []string{
		"", "a", " ", "\\", `"`, `"a`, `a"`, `a`, `'a'`, "`a`", `''`, "``", `'"'`, ` "a"`, `"a" `, `x"a"`, `"a"x`, `"a"b"`, `"a"""`, `""""`, `"""`, `"a""b"`, `"a" "b"`,
		`"\"`, `"\\\"`, `"a\"`, `\"a\"`, `"\`, `"\\`, `"a\`, `"\"a`, `\""`,
		`"\n"`, `"\t"`, `"\r"`, `"\a"`, `"\b"`, `"\v"`, `"\f"`, `"\0"`, `"\000"`, `"\101"`, `"\377"`, `"\'"`, `"\ "`, `"\X0a"`, `"\u000a"`, `"\u00e9"`, `"\U0001f6d2"`, `"\a\"`, `"\/"`, `"\~"`,
		`"\x"`, `"\x0"`, `"\x"0a`, `"\x0g"`, `"\xzz"`, `"\x 0a"`, `"\x+a"`, `"\x0`, `"\x0a`, `"\x`, `"\x\x0a"`,
		`"\x0A"`, `"\x1F"`, `"\xFF"`, `"\xfF"`, `"\xFf"`, `"\x7F"`, `"\xC3\xa9"`, `"a\x0Ab"`,
		`"\x41"`, `"\x20"`, `"\x22"`, `"\x5c"`, `"\x7e"`, `"\x30"`, `"a\x20b"`, `"\x0a\x41"`,
		"\"\n\"", "\"\x00\"", "\"\x1f\"", "\"\x7f\"", "\"\x80\"", "\"\xff\"", "\"\u00e9\"", "\"\ufffd\"", "\"\t\"", "\"a\rb\"", "\"\\\n\"", "\"\\\xff\"",
	} {
		if s, e := Unquote(q); s != "" || e != api.ErrFormat {
			t.Errorf("%q %q %v", q, s, e)
		}
	}
}

// P7.2: each byte as it is, behind a backslash, and in hexadecimal digits, small ones and capital ones, alone and between others.
func TestBytesInQuotes(t *testing.T) {
	for b := range 256 {
		c := one(b)
		raw := 32 <= b && b <= 126 && b != '"' && b != '\\'
		escaped := b == '"' || b == '\\'
		hex := b < 32 || b > 126
		small, capital := fmt.Sprintf("\\x%02x", b), fmt.Sprintf("\\x%02X", b)
		for _, f := range []string{"%s", "a%s", "%sa", "a%sb", "\\\"%s\\\\", "\\x0a%s0"} {
			for _, x := range []struct {
				in   string
				good bool
			}{{c, raw}, {"\\" + c, escaped}, {small, hex}, {capital, hex && small == capital}} {
				q := "\"" + fmt.Sprintf(f, x.in) + "\""
				want, e := "", api.ErrFormat
				if x.good {
					e, want = api.OK, strings.NewReplacer("\\\"", "\"", "\\\\", "\\", "\\x0a", "\n").Replace(f)
					want = strings.Replace(want, "%s", c, 1)
				}
				if s, f := Unquote(q); s != want || f != e {
					t.Errorf("%q %q %v", q, s, f)
				}
			}
		}
	}
}

// P7.2: all short strings of the bytes that matter, in quotes and not, by the definition.
func TestUnquote(t *testing.T) {
	for _, s := range all(6, "\"\\x01a") {
		checkUnquote(t, s)
		checkUnquote(t, "\""+s+"\"")
	}
	for _, s := range texts() {
		checkUnquote(t, s)
		checkUnquote(t, "\""+s+"\"")
	}
}

// P7.2 and P7.3: strings in quotes and lines of fields, with a byte that is changed, left out, put in or doubled in each place.
func TestChanged(t *testing.T) {
	for _, s := range []string{`"a\"b\\c\x0a"`, `"\x00\xff\x7f"`, `""`, `add "Red apple" 3`, ` a  "\\ \"" `, `"" ""`} {
		for at := range len(s) + 1 {
			for b := range 256 {
				changed := []string{s[:at] + one(b) + s[at:]}
				if at < len(s) {
					changed = append(changed, s[:at]+one(b)+s[at+1:], s[:at]+s[at+1:], s[:at+1]+s[at:], s[:at])
				}
				for _, x := range changed {
					checkUnquote(t, x)
					checkFields(t, x)
				}
			}
		}
	}
}

// P7.3: lines that are known.
func TestKnownFields(t *testing.T) {
	for _, c := range []struct {
		s    string
		want []string
	}{
		{"", nil}, {" ", nil}, {strings.Repeat(" ", 1000), nil}, {"a", []string{"a"}}, {"add \"Red apple\" 3", []string{"add", "Red apple", "3"}}, {"a b", []string{"a", "b"}}, {" a", []string{"a"}}, {"a ", []string{"a"}}, {"   a     b   ", []string{"a", "b"}}, {`""`, []string{""}}, {`"" ""`, []string{"", ""}}, {`  ""   x`, []string{"", "x"}}, {`" "`, []string{" "}}, {`"   "   " a "`, []string{"   ", " a "}},
		{`"a"`, []string{"a"}}, {`"a" b`, []string{"a", "b"}}, {`a "b"`, []string{"a", "b"}}, {`"a b" "c d"`, []string{"a b", "c d"}}, {`"a \" b" c`, []string{"a \" b", "c"}}, {`"\\" "\""`, []string{"\\", "\""}}, {`"\x0a" \x0a`, []string{"\n", "\\x0a"}},
		{"\\", []string{"\\"}}, {"a\\ b", []string{"a\\", "b"}}, {"\\x41 \\n", []string{"\\x41", "\\n"}}, {"'a b'", []string{"'a", "b'"}}, {"`a b`", []string{"`a", "b`"}}, {"a a", []string{"a", "a"}},
		{"a\tb", []string{"a\tb"}}, {"\t", []string{"\t"}}, {"\n \r", []string{"\n", "\r"}}, {"\x00 \x7f", []string{"\x00", "\x7f"}}, {"\xff \x80a", []string{"\xff", "\x80a"}}, {"\u00e9 \u20ac\u00a0x", []string{"\u00e9", "\u20ac\u00a0x"}}, {"\ufffd", []string{"\ufffd"}}, {" \u3000 ", []string{"\u3000"}},
	} {
		if l, e := Fields(c.s); !slices.Equal(l, c.want) || e != api.OK {
			t.Errorf("%q %q %v", c.s, l, e)
		}
	}
}

// P7.3: lines that do not consist of fields, wherever what is wrong stands: nothing is returned of the fields before it.
func TestNoFields(t *testing.T) {
	for _, s := range []string{
		`"`, `a"`, `a""`, `a"b"`, `a"b`, `"a"b`, `"a""b"`, `""""`, `"""`, `"a"\`, `\"`, `\"a\"`, `"a`, `"a b`, `"a\"`, `"\`, `"\"`, `"a\"b`, "\"a\"\t\"b\"", "\"a\"\n",
		`"\x41"`, `"\x0A"`, `"\x0"`, `"\n"`, `"\u000a"`, "\"\n\"", "\"\xff\"", "\"\u00e9\"", "\"a\tb\"", "`\"`", `'"'`, "`a\"b`",
	} {
		for _, f := range []string{"%s", " %s", "%s ", "   %s   ", "x %s", "%s x", "\"y z\" %s \"x\"", "x  %s  \"\""} {
			if l, e := Fields(fmt.Sprintf(f, s)); l != nil || e != api.ErrFormat {
				t.Errorf("%q %q %q %v", f, s, l, e)
			}
		}
	}
}

// P7.3: each single byte alone, between letters, between fields and in quotes.
func TestBytesOfLines(t *testing.T) {
	for b := range 256 {
		c := one(b)
		for _, s := range []string{c, c + c, "a" + c + "b", "a " + c, c + " b", "a " + c + " b", "\"" + c + "\"", "\"a\"" + c, c + "\"a\"", "\"a\"" + c + "\"b\"", "\"\\" + c + "\" a"} {
			checkFields(t, s)
		}
		want := []string{"a" + c + "b"}
		if c == " " {
			want = []string{"a", "b"}
		}
		if l, e := Fields("a" + c + "b"); c != "\"" && (!slices.Equal(l, want) || e != api.OK) {
			t.Errorf("%d %q %v", b, l, e)
		}
	}
}

// P7.3: all short lines of the bytes that matter, and others, by the definition.
func TestFields(t *testing.T) {
	for _, s := range all(7, " a\"\\") {
		checkFields(t, s)
	}
	for _, s := range all(5, " x\"\\0\xff") {
		checkFields(t, s)
	}
	for _, s := range texts() {
		checkFields(t, s)
	}
	r := rand.New(rand.NewSource(8))
	for range 20000 {
		checkFields(t, random(r, r.Intn(40), "  a\"\"\\x0"))
	}
}

// P7.4: Canon leaves names as they are, and what it returns is one.
func TestCanonOfNames(t *testing.T) {
	for _, s := range texts() {
		if x, e := Canon(s); Item(s) && (x != s || e != api.OK) {
			t.Fatalf("%q %q %v", s, x, e)
		}
		x, e := Canon(s)
		if e != api.OK {
			continue
		}
		if y, f := Canon(x); !Item(x) || y != x || f != api.OK {
			t.Fatalf("%q %q %q %v", s, x, y, f)
		}
	}
}

// P7.4: Unquote inverts Quote, which writes no byte below 32 or above 126; and what Unquote reads Quote writes again.
func TestInverse(t *testing.T) {
	for _, s := range append(texts(), Quote(every()), Quote(Quote(every()))) {
		q := Quote(s)
		if x, e := Unquote(q); x != s || e != api.OK {
			t.Fatalf("%q %s %q %v", s, q, x, e)
		}
		for i := range len(q) {
			if q[i] < 32 || q[i] > 126 {
				t.Fatalf("%q %q", s, q)
			}
		}
	}
	for _, q := range all(7, "\"\\x01") {
		if s, e := Unquote(q); e == api.OK && Quote(s) != q {
			t.Fatalf("%q %q", q, s)
		}
	}
}

// P7.4: strings in quotes are fields again, alone and joined by one space or more, with spaces around them.
func TestFieldsOfQuotes(t *testing.T) {
	l := texts()
	r := rand.New(rand.NewSource(9))
	for n := range 40 {
		var in, quotes []string
		for range n {
			in = append(in, l[r.Intn(len(l))])
			quotes = append(quotes, Quote(in[len(in)-1]))
		}
		for _, gap := range []string{" ", "  ", "     "} {
			s := strings.Join(quotes, gap)
			for _, x := range []string{s, gap + s, s + gap, gap + s + gap} {
				if out, e := Fields(x); !slices.Equal(out, in) || e != api.OK {
					t.Fatalf("%q %q %v", x, out, e)
				}
			}
		}
		if n > 1 {
			if out, e := Fields(strings.Join(quotes, "")); out != nil || e != api.ErrFormat {
				t.Fatalf("%q %q %v", quotes, out, e)
			}
		}
	}
	var quotes []string
	for _, s := range l {
		quotes = append(quotes, Quote(s))
	}
	if out, e := Fields(strings.Join(quotes, " ")); !slices.Equal(out, l) || e != api.OK {
		t.Error(len(out), e)
	}
}

// P1: long strings come to an end, whatever they are of.
func TestLong(t *testing.T) {
	const size = 1 << 18
	for _, part := range []string{"a", " ", "\"", "\\", "\\\"", "\"\"", "a ", "\"\" ", "\"a\\\\\" ", "\\x0a", "\xff", "\xff ", "\n", "\t ", "\"a", "\u00e9 ", "a\""} {
		s := strings.Repeat(part, size/len(part))
		if x, e := Canon(s); Key(s) || Item(s) || x != "" || e != api.ErrArg {
			t.Errorf("%q %q %v", part, x, e)
		}
		if x, e := Unquote(Quote(s)); x != s || e != api.OK {
			t.Errorf("%q %d %v", part, len(x), e)
		}
		if l, e := Fields(Quote(s)); len(l) != 1 || l[0] != s || e != api.OK {
			t.Errorf("%q %d %v", part, len(l), e)
		}
		for _, x := range []string{s, "\"" + s, "\"" + s + "\"", s + "\"", strings.TrimSuffix(s, " ") + "\\"} {
			checkUnquote(t, x)
			checkFields(t, x)
		}
	}
}

// overlap reports whether two strings share memory.
func overlap(a, b string) bool {
	if a == "" || b == "" {
		return false
	}
	x, y := uintptr(unsafe.Pointer(unsafe.StringData(a))), uintptr(unsafe.Pointer(unsafe.StringData(b)))
	return x < y+uintptr(len(b)) && y < x+uintptr(len(a))
}

// The rules: results share no memory with arguments or with each other, and nothing depends on earlier calls.
func TestNewMemory(t *testing.T) {
	for _, s := range []string{"apple", " apple ", "Red apple", "\tRed  apple", `"apple"`, `"a\"b"`, `""`, "apple pear apple", `"apple" "pear" plum`, `apple "a\x0ab" "a\x0ab"`} {
		s = strings.Clone(s)
		name, e := Canon(s)
		text, f := Unquote(s)
		fields, g := Fields(s)
		if overlap(name, s) || overlap(text, s) || overlap(Quote(s), s) {
			t.Errorf("%q", s)
		}
		for i, x := range fields {
			if overlap(x, s) || slices.ContainsFunc(fields[:i], func(y string) bool { return overlap(x, y) }) {
				t.Errorf("%q %q", s, x)
			}
		}
		want := slices.Clone(fields)
		for i := range fields {
			fields[i] = "changed"
		}
		_ = append(fields, "changed")
		Fields("other words")
		Fields("\"")
		again, h := Fields(s)
		name2, i := Canon(s)
		text2, k := Unquote(s)
		if !slices.Equal(again, want) || name2 != name || text2 != text || e != i || f != k || g != h {
			t.Errorf("%q %q %q %q", s, again, name2, text2)
		}
	}
}
