package utf_test

import (
	"math"
	"math/rand"
	"slices"
	"sort"
	"strings"
	"testing"
	"unicode/utf16"
	"unicode/utf8"
	"unsafe"

	"gauger/api"
	"gauger/utf"
)

// form returns the form of a code point as the chapter defines it, and whether the number is a code point.
func form(x int) (string, bool) {
	if x < 0 || x > 0x10ffff || x >= 0xd800 && x <= 0xdfff {
		return "", false
	}
	var b []byte
	switch {
	case x < 0x80:
		b = []byte{byte(x)}
	case x < 0x800:
		b = []byte{byte(0xc0 + x/64), byte(0x80 + x%64)}
	case x < 0x10000:
		b = []byte{byte(0xe0 + x/4096), byte(0x80 + x/64%64), byte(0x80 + x%64)}
	default:
		b = []byte{byte(0xf0 + x/262144), byte(0x80 + x/4096%64), byte(0x80 + x/64%64), byte(0x80 + x%64)}
	}
	return string(b), true
}

// definition has all forms, and all proper beginnings of forms.
type definition struct {
	forms map[string]int
	cut   map[string]bool
}

func define() definition {
	d := definition{forms: map[string]int{}, cut: map[string]bool{}}
	for x := 0; x <= 0x10ffff; x++ {
		f, ok := form(x)
		if !ok {
			continue
		}
		d.forms[f] = x
		for n := 1; n < len(f); n++ {
			d.cut[f[:n]] = true
		}
	}
	return d
}

// read is Read(s, 0) by definition.
func (d definition) read(s string) (int, int, api.Errno) {
	if s == "" {
		return 0, 0, api.ErrNone
	}
	for n := 1; n <= min(4, len(s)); n++ {
		if x, ok := d.forms[s[:n]]; ok {
			return x, n, api.OK
		}
	}
	if d.cut[s] {
		return 0, 0, utf.ErrShort
	}
	return 0, 0, utf.ErrForm
}

// check is Check by definition.
func (d definition) check(s string) (int, api.Errno) {
	at := 0
	for {
		_, n, e := d.read(s[at:])
		if e == api.ErrNone {
			return at, api.OK
		}
		if e != api.OK {
			return at, e
		}
		at += n
	}
}

// samples returns strings of pieces that are forms, beginnings of forms and other bytes; the same ones each time.
func samples(n int) []string {
	pieces := []string{"a", "\x00", "\x7f", "\u0080", "\u07ff", "\u0800", "\u20ac", "\ud7ff", "\ue000", "\ufffd", "\uffff", "\U00010000", "\U0001f600", "\U0010ffff"}
	wrong := []string{"\x80", "\xbf", "\xc0", "\xc2", "\xe0", "\xe0\x80", "\xe2\x82", "\xed\xa0\x80", "\xf0\x9f\x98", "\xf4\x90", "\xff"}
	r := rand.New(rand.NewSource(1))
	l := []string{""}
	for len(l) < n {
		var b strings.Builder
		for range r.Intn(9) {
			if len(l)%2 == 0 && r.Intn(3) == 0 {
				b.WriteString(wrong[r.Intn(len(wrong))])
			} else {
				b.WriteString(pieces[r.Intn(len(pieces))])
			}
		}
		l = append(l, b.String())
	}
	return l
}

// P1.1: every number from below 0 to beyond MaxPoint.
func TestFormOfEachNumber(t *testing.T) {
	for x := -3; x <= utf.MaxPoint+3; x++ {
		f, ok := form(x)
		want := api.OK
		if !ok {
			want = api.ErrArg
		}
		n, e := utf.Size(x)
		b, g := utf.Append(nil, x)
		if utf.Point(x) != ok || n != len(f) || e != want || string(b) != f || g != want {
			t.Fatalf("%#x: point %t, size %d %d, form %x %d", x, utf.Point(x), n, e, b, g)
		}
	}
}

// P1.1: numbers that are no code points, with bytes before them.
func TestNumbersThatAreNoCodePoints(t *testing.T) {
	for _, x := range []int{-1, 0xd800, 0xdbff, 0xdc00, 0xdfff, 0x110000, 1 << 32, 1<<32 + 'a', math.MinInt, math.MaxInt} {
		n, e := utf.Size(x)
		b, f := utf.Append([]byte("before"), x)
		if utf.Point(x) || n != 0 || e != api.ErrArg || len(b) != 0 || f != api.ErrArg {
			t.Error(x, utf.Point(x), n, e, b, f)
		}
	}
}

// P1.1 and R3: the bytes stay before the form, and what Append was given stays as it was.
func TestAppendKeepsBytes(t *testing.T) {
	for _, room := range []int{0, 1, 2, 3, 4, 9} {
		b := make([]byte, 3, 3+room)
		copy(b, "\xffab")
		got, e := utf.Append(b, 0x20ac)
		if string(got) != "\xffab\xe2\x82\xac" || e != api.OK || string(b) != "\xffab" {
			t.Errorf("%d: %q %d, and %q", room, got, e, b)
		}
	}
	var b []byte
	for _, x := range []int{'a', 0xe9, 0x20ac, 0x1f600} {
		b, _ = utf.Append(b, x)
	}
	if string(b) != "aé€\U0001f600" {
		t.Errorf("%q", b)
	}
}

// P1.2: all strings of one and two bytes, and those of three and four whose bytes stand at a border, against the definition.
func TestReadAgainstDefinition(t *testing.T) {
	d := define()
	try := func(s string) {
		x, n, e := utf.Read(s, 0)
		if y, m, f := d.read(s); x != y || n != m || e != f {
			t.Fatalf("%x: %#x %d %d, not %#x %d %d", s, x, n, e, y, m, f)
		}
	}
	try("")
	for a := range 256 {
		try(string([]byte{byte(a)}))
		for b := range 256 {
			try(string([]byte{byte(a), byte(b)}))
		}
	}
	borders := []byte{0x00, 'A', 0x7f, 0x80, 0x8f, 0x90, 0x9f, 0xa0, 0xbf, 0xc0, 0xc1, 0xc2, 0xdf, 0xe0, 0xe1, 0xec, 0xed, 0xee, 0xef, 0xf0, 0xf1, 0xf3, 0xf4, 0xf5, 0xff}
	for _, a := range borders {
		for _, b := range borders {
			for _, c := range borders {
				try(string([]byte{a, b, c}))
				for _, e := range borders {
					try(string([]byte{a, b, c, e}))
				}
			}
		}
	}
}

// P1.2: offsets within a string, at its end, and outside of it; the examples of the chapter.
func TestReadAtOffsets(t *testing.T) {
	const s = "a\u20ac\x00\U0001f600\xe2\x82"
	for i, c := range []struct {
		s    string
		at   int
		x, n int
		e    api.Errno
	}{
		{s, 0, 'a', 1, api.OK}, {s, 1, 0x20ac, 3, api.OK}, {s, 2, 0, 0, utf.ErrForm}, {s, 3, 0, 0, utf.ErrForm},
		{s, 4, 0, 1, api.OK}, {s, 5, 0x1f600, 4, api.OK}, {s, 6, 0, 0, utf.ErrForm}, {s, 8, 0, 0, utf.ErrForm},
		{s, 9, 0, 0, utf.ErrShort}, {s, 10, 0, 0, utf.ErrForm}, {s, 11, 0, 0, api.ErrNone}, {s, 12, 0, 0, api.ErrArg},
		{s, -1, 0, 0, api.ErrArg}, {s, math.MinInt, 0, 0, api.ErrArg}, {s, math.MaxInt, 0, 0, api.ErrArg},
		{"", 0, 0, 0, api.ErrNone}, {"", 1, 0, 0, api.ErrArg}, {"", -1, 0, 0, api.ErrArg},
		{"\xe2\x82\xac", 0, 0x20ac, 3, api.OK}, {"\xe2\x82\xac", 1, 0, 0, utf.ErrForm}, {"\xe2\x82", 0, 0, 0, utf.ErrShort},
		{"\xe2\x28", 0, 0, 0, utf.ErrForm}, {"\xc0\x80", 0, 0, 0, utf.ErrForm}, {"\xed\xa0\x80", 0, 0, 0, utf.ErrForm},
		{"\xf4\x90\x80\x80", 0, 0, 0, utf.ErrForm}, {"\xe0\x80", 0, 0, 0, utf.ErrForm}, {"\xf4\x8f\xbf\xbf", 0, 0x10ffff, 4, api.OK},
	} {
		if x, n, e := utf.Read(c.s, c.at); x != c.x || n != c.n || e != c.e {
			t.Error(i, x, n, e)
		}
	}
}

// P1.3, and the errors of P1.4 and P1.5: many strings, good and bad ones, against the definition and against the library.
func TestStringsAgainstDefinition(t *testing.T) {
	d := define()
	valid := 0
	for _, s := range samples(4000) {
		at, e := utf.Check(s)
		if wantAt, want := d.check(s); at != wantAt || e != want {
			t.Fatalf("%q: check %d %d, not %d %d", s, at, e, wantAt, want)
		}
		if utf.Valid(s) != (e == api.OK) || utf.Valid(s) != utf8.ValidString(s) {
			t.Fatalf("%q: valid %t", s, utf.Valid(s))
		}
		var want []int
		if e == api.OK {
			valid++
			for _, x := range s {
				want = append(want, int(x))
			}
		}
		l, f := utf.Points(s)
		n, g := utf.Count(s)
		_, h := utf.Cut(s, len(s))
		if !slices.Equal(l, want) || n != len(want) || f != e || g != e || h != e {
			t.Fatalf("%q: points %x %d, count %d %d, cut %d", s, l, f, n, g, h)
		}
	}
	if valid < 1000 || valid > 3000 {
		t.Error("too few strings of one sort: valid of 4000 are", valid)
	}
}

// P1.3: the first offset that is not good counts, although others follow; a string may be longer than MaxBytes.
func TestCheck(t *testing.T) {
	long := strings.Repeat("\u20ac", utf.MaxBytes/2)
	for i, c := range []struct {
		s  string
		at int
		e  api.Errno
	}{
		{"", 0, api.OK}, {"a\u20acb", 5, api.OK}, {"\xff", 0, utf.ErrForm}, {"\xe2", 0, utf.ErrShort}, {"a\xe2\x82", 1, utf.ErrShort},
		{"a\xe2\x82b\xff", 1, utf.ErrForm}, {"ab\xff\xe2", 2, utf.ErrForm}, {"\u20ac\x80", 3, utf.ErrForm}, {"\u20ac\xf0\x9f\x98", 3, utf.ErrShort},
		{"a\xe0\x80", 1, utf.ErrForm}, {long, len(long), api.OK}, {long + "\xff", len(long), utf.ErrForm}, {long + "\xc2", len(long), utf.ErrShort},
	} {
		if at, e := utf.Check(c.s); at != c.at || e != c.e || utf.Valid(c.s) != (c.e == api.OK) {
			t.Error(i, at, e, utf.Valid(c.s))
		}
	}
}

// P1.4: texts of lists.
func TestText(t *testing.T) {
	for i, c := range []struct {
		l []int
		s string
		e api.Errno
	}{
		{nil, "", api.OK}, {[]int{}, "", api.OK}, {[]int{0}, "\x00", api.OK}, {[]int{0x61, 0x20ac, 0x1f600, 0xfffd}, "a\u20ac\U0001f600\ufffd", api.OK},
		{[]int{-1}, "", api.ErrArg}, {[]int{0x61, 0xd800}, "", api.ErrArg}, {[]int{0xd83d, 0xde00}, "", api.ErrArg}, {[]int{0x110000, 0x61}, "", api.ErrArg},
		{[]int{1<<32 + 0x61}, "", api.ErrArg},
	} {
		if s, e := utf.Text(c.l); s != c.s || e != c.e {
			t.Errorf("%d: %q %d", i, s, e)
		}
	}
}

// P1.4, P1.5 and R2: what is too long is so first; MaxBytes are not too long.
func TestLongFirst(t *testing.T) {
	most := strings.Repeat("a", utf.MaxBytes)
	for _, long := range []string{most + "a", most + "\xff", "\xff" + most, most + "\xe2"} {
		l, e := utf.Points(long)
		n, f := utf.Count(long)
		s, g := utf.Cut(long, -1)
		r, h := utf.Cut(long, 1)
		if len(l) != 0 || n != 0 || s != "" || r != "" || e != api.ErrLong || f != api.ErrLong || g != api.ErrLong || h != api.ErrLong {
			t.Error(len(l), e, n, f, len(s), g, len(r), h)
		}
	}
	numbers := make([]int, utf.MaxBytes+1)
	numbers[0] = -1
	if s, e := utf.Text(numbers); s != "" || e != api.ErrLong {
		t.Error(len(s), e)
	}
	l, e := utf.Points(most)
	n, f := utf.Count(most)
	s, g := utf.Cut(most, utf.MaxBytes)
	text, h := utf.Text(l)
	if len(l) != utf.MaxBytes || n != utf.MaxBytes || s != most || text != most || e != api.OK || f != api.OK || g != api.OK || h != api.OK {
		t.Error(len(l), e, n, f, len(s), g, len(text), h)
	}
	// Of a text, the numbers count, not the bytes of the result.
	for i := range l {
		l[i] = utf.MaxPoint
	}
	if s, e := utf.Text(l); s != strings.Repeat("\U0010ffff", utf.MaxBytes) || e != api.OK {
		t.Error(len(s), e)
	}
}

// P1.5: each number of bytes, against the definition.
func TestCut(t *testing.T) {
	for _, s := range samples(600) {
		for n := 0; n <= len(s)+2 && utf8.ValidString(s); n++ {
			want := s[:min(n, len(s))]
			for !utf8.ValidString(want) {
				want = want[:len(want)-1]
			}
			if got, e := utf.Cut(s, n); got != want || e != api.OK {
				t.Fatalf("%q %d: %q %d, not %q", s, n, got, e, want)
			}
		}
	}
	for i, c := range []struct {
		s    string
		n    int
		want string
		e    api.Errno
	}{
		{"a\u20acb", 3, "a", api.OK}, {"a\u20acb", 4, "a\u20ac", api.OK}, {"a\u20acb", math.MaxInt, "a\u20acb", api.OK}, {"", 0, "", api.OK},
		{"a", -1, "", api.ErrArg}, {"", math.MinInt, "", api.ErrArg}, {"\xff", -1, "", api.ErrArg}, {"a\xff", 1, "", utf.ErrForm},
		{"a\xff", 0, "", utf.ErrForm}, {"a\xe2", 1, "", utf.ErrShort},
	} {
		if got, e := utf.Cut(c.s, c.n); got != c.want || e != c.e {
			t.Errorf("%d: %q %d", i, got, e)
		}
	}
}

// P1.6 and P1.7: all pairs, and each is split again.
func TestPairs(t *testing.T) {
	x := 0x10000
	for high := 0xd800; high <= 0xdbff; high++ {
		for low := 0xdc00; low <= 0xdfff; low++ {
			got, e := utf.Pair(high, low)
			if got != x || e != api.OK || rune(got) != utf16.DecodeRune(rune(high), rune(low)) {
				t.Fatalf("%x %x: %x %d", high, low, got, e)
			}
			if a, b, e := utf.Split(x); a != high || b != low || e != api.OK {
				t.Fatalf("%x: %x %x %d", x, a, b, e)
			}
			x++
		}
	}
	if x != utf.MaxPoint+1 {
		t.Errorf("%x", x)
	}
	if x, e := utf.Pair(0xd83d, 0xde00); x != 0x1f600 || e != api.OK {
		t.Error(x, e)
	}
}

// P1.6: numbers that are no surrogates, or not the right ones.
func TestNoPairs(t *testing.T) {
	for _, c := range [][2]int{{0xd7ff, 0xdc00}, {0xdc00, 0xdc00}, {0xdc00, 0xd800}, {0xd800, 0xd800}, {0xd800, 0xdbff}, {0xd800, 0xe000}, {0, 0}, {-1, 0xdc00}, {0xd800, -1}, {math.MaxInt, math.MaxInt}, {math.MinInt, math.MinInt}} {
		if x, e := utf.Pair(c[0], c[1]); x != 0 || e != api.ErrArg {
			t.Error(c, x, e)
		}
	}
	for _, x := range []int{-1, 0, 0xd800, 0xffff, 0x110000, math.MaxInt, math.MinInt} {
		if a, b, e := utf.Split(x); a != 0 || b != 0 || e != api.ErrArg {
			t.Error(x, a, b, e)
		}
	}
}

// P1.7: what is written is read back; no form begins another one, as their order has none beside the next; that order is the one of the code points; within a form nothing is good.
func TestFormsInOrder(t *testing.T) {
	last := ""
	for x := 0; x <= utf.MaxPoint; x++ {
		if !utf.Point(x) {
			continue
		}
		b, _ := utf.Append(nil, x)
		s := string(b)
		if y, n, e := utf.Read(s, 0); y != x || n != len(s) || e != api.OK {
			t.Fatalf("%x: %x %d %d", x, y, n, e)
		}
		if x > 0 && (s <= last || strings.HasPrefix(s, last)) {
			t.Fatalf("%x: %x behind %x", x, s, last)
		}
		for at := 1; at < len(s); at++ {
			if y, n, e := utf.Read(s, at); y != 0 || n != 0 || e != utf.ErrForm {
				t.Fatalf("%x at %d: %x %d %d", x, at, y, n, e)
			}
		}
		last = s
	}
}

// P1.7: strings are written back, and their order is the order of their code points.
func TestStringsInOrder(t *testing.T) {
	var valid []string
	for _, s := range samples(1500) {
		if l, e := utf.Points(s); e == api.OK {
			valid = append(valid, s)
			if back, f := utf.Text(l); back != s || f != api.OK {
				t.Fatalf("%q: %q %d", s, back, f)
			}
		}
	}
	sort.Strings(valid)
	for i := 1; i < len(valid); i++ {
		a, _ := utf.Points(valid[i-1])
		b, _ := utf.Points(valid[i])
		if slices.Compare(a, b) != strings.Compare(valid[i-1], valid[i]) {
			t.Fatalf("%q and %q", valid[i-1], valid[i])
		}
	}
}

// P1.7: in a valid string each offset that is not the beginning of a form is bad.
func TestOffsetsWithinForms(t *testing.T) {
	for _, s := range samples(600) {
		for at := 0; at < len(s) && utf8.ValidString(s); at++ {
			_, _, e := utf.Read(s, at)
			if want := utf8.RuneStart(s[at]); want != (e == api.OK) || !want && e != utf.ErrForm {
				t.Fatalf("%q at %d: %d", s, at, e)
			}
		}
	}
}

// R3: arguments and what slices have room for stay as they were; results are new each time.
func TestNothingShared(t *testing.T) {
	l := []int{'a', 0x20ac, -7, -8}
	if s, e := utf.Text(l[:2]); s != "a\u20ac" || e != api.OK || !slices.Equal(l, []int{'a', 0x20ac, -7, -8}) {
		t.Errorf("%q %d %d", s, e, l)
	}
	a, _ := utf.Points("a\u20ac")
	b, _ := utf.Points("a\u20ac")
	a[0], a[1] = 1, 2
	if !slices.Equal(b, []int{'a', 0x20ac}) {
		t.Error(b)
	}
	s := strings.Repeat("\u20ac", 5)
	if got, _ := utf.Cut(s, 9); unsafe.StringData(got) == unsafe.StringData(s) {
		t.Error("a string that was cut has the memory of the whole")
	}
	room := []byte("abcdefgh")
	if b, e := utf.Append(room[:2], 0xd800); len(b) != 0 || e != api.ErrArg || string(room) != "abcdefgh" {
		t.Errorf("%q %d %q", b, e, room)
	}
}

// R4 and R5: a call answers the same after others, and nil is as good as empty.
func TestSameAgain(t *testing.T) {
	for range 3 {
		utf.Read("\xff", 0)
		utf.Text([]int{-1})
		if at, e := utf.Check("\u20ac\xe2"); at != 3 || e != utf.ErrShort {
			t.Error(at, e)
		}
		a, e := utf.Append(nil, 'x')
		b, f := utf.Append([]byte{}, 'x')
		if string(a) != "x" || string(b) != "x" || e != api.OK || f != api.OK {
			t.Error(a, e, b, f)
		}
	}
	if l, e := utf.Points(""); len(l) != 0 || e != api.OK {
		t.Error(l, e)
	}
	if n, e := utf.Count(""); n != 0 || e != api.OK {
		t.Error(n, e)
	}
}

// The limits and the numbers of errors, as the chapter gives them.
func TestConstants(t *testing.T) {
	if utf.MaxPoint != 0x10ffff || utf.MaxBytes != 1048576 || utf.ErrShort != 10 || utf.ErrForm != 11 {
		t.Error(utf.MaxPoint, utf.MaxBytes, utf.ErrShort, utf.ErrForm)
	}
}
