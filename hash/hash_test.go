package hash_test

import (
	"encoding/binary"
	"fmt"
	"hash/fnv"
	"math"
	"math/big"
	"math/rand"
	"slices"
	"strings"
	"testing"

	"gauger/api"
	"gauger/hash"
)

// The numbers as the chapter gives them, so that the tests do not depend on the constants of the package.
const (
	offset uint64 = 14695981039346656037
	prime  uint64 = 1099511628211
)

// after is the hash h after a step with each byte, as the chapter defines it: on numbers without bounds.
func after(h uint64, s string) uint64 {
	modulus := new(big.Int).Lsh(big.NewInt(1), 64)
	p := new(big.Int).SetUint64(prime)
	x := new(big.Int).SetUint64(h)
	for i := range len(s) {
		x.Xor(x, big.NewInt(int64(s[i])))
		x.Mod(x.Mul(x, p), modulus)
	}
	return x.Uint64()
}

// zeros is h times Prime to the power of n, on numbers without bounds.
func zeros(h uint64, n int) uint64 {
	modulus := new(big.Int).Lsh(big.NewInt(1), 64)
	x := new(big.Int).Exp(new(big.Int).SetUint64(prime), big.NewInt(int64(n)), modulus)
	return x.Mod(x.Mul(x, new(big.Int).SetUint64(h)), modulus).Uint64()
}

// samples returns strings of all kinds of bytes; the same ones each time.
func samples(n int) []string {
	r := rand.New(rand.NewSource(2))
	l := []string{"", "\x00", "\xff", "a", "foobar", "\x00\x00", "a\x00", "\x00a", "€", strings.Repeat("\xff", 300), strings.Repeat("ab", 500)}
	for len(l) < n {
		b := make([]byte, r.Intn(40))
		r.Read(b)
		l = append(l, string(b))
	}
	return l
}

// hashes returns hashes at borders, and others; the same ones each time.
func hashes(n int) []uint64 {
	r := rand.New(rand.NewSource(3))
	l := []uint64{0, 1, 2, 0xff, 0x100, 1 << 32, 1<<63 - 1, 1 << 63, math.MaxUint64 - 1, math.MaxUint64, offset, prime}
	for len(l) < n {
		l = append(l, r.Uint64())
	}
	return l
}

func TestConstants(t *testing.T) {
	if hash.Offset != offset || hash.Prime != prime || hash.ErrText != 20 {
		t.Error(hash.Offset, hash.Prime, hash.ErrText)
	}
}

// P2.1: hashes that are known, those of the chapter among them.
func TestKnownSums(t *testing.T) {
	for _, c := range []struct {
		s    string
		want uint64
	}{
		{"", offset}, {"a", 0xaf63dc4c8601ec8c}, {"b", 0xaf63df4c8601f1a5}, {"foo", 0xdcb27518fed9d577},
		{"foobar", 0x85944171f73967e8}, {"\x00", 0xaf63bd4c8601b7df}, {"hello", 0xa430d84680aabd0b},
	} {
		if got := hash.Sum(c.s); got != c.want {
			t.Errorf("%q: %x", c.s, got)
		}
	}
	if got := hash.Add(hash.Sum("foo"), "bar"); got != hash.Sum("foobar") {
		t.Errorf("%x", got)
	}
}

// P2.1: each byte as a string, and many strings, against the definition and against the library.
func TestSumsAgainstDefinition(t *testing.T) {
	try := func(s string) {
		library := fnv.New64a()
		library.Write([]byte(s))
		if got := hash.Sum(s); got != after(offset, s) || got != library.Sum64() {
			t.Fatalf("%q: %x", s, got)
		}
	}
	for b := range 256 {
		try(string([]byte{byte(b)}))
	}
	for _, s := range samples(400) {
		try(s)
	}
}

// P2.1: strings after hashes of all sizes.
func TestAddAgainstDefinition(t *testing.T) {
	for _, h := range hashes(60) {
		for _, s := range samples(40) {
			if got := hash.Add(h, s); got != after(h, s) {
				t.Fatalf("%x %q: %x", h, s, got)
			}
		}
		if got := hash.Add(h, ""); got != h {
			t.Fatalf("%x: %x", h, got)
		}
	}
}

// P2.1: parts are hashed as their lengths, in eight bytes with the lowest first, and their bytes.
func TestParts(t *testing.T) {
	all := samples(120)
	lists := [][]string{
		nil, {}, {""}, {"", ""}, {"a"}, {"a", ""}, {"", "a"}, {"ab", "c"}, {"a", "bc"}, {"abc"}, {"b", "a"},
		{strings.Repeat("x", 255)}, {strings.Repeat("x", 256)}, {strings.Repeat("x", 257), "y"}, {strings.Repeat("z", 70000), "\x00"}, all,
	}
	for i, l := range lists {
		var b []byte
		for _, s := range l {
			b = append(binary.LittleEndian.AppendUint64(b, uint64(len(s))), s...)
		}
		if got := hash.Parts(l); got != after(offset, string(b)) {
			t.Errorf("%d: %x", i, got)
		}
	}
	if hash.Parts(nil) != offset || hash.Parts([]string{""}) == offset || hash.Parts([]string{"ab", "c"}) == hash.Parts([]string{"a", "bc"}) {
		t.Error("lists that differ have the same hash, or the one of none is not Offset")
	}
}

// P2.2: back from what a string leads to, and on from where it led back.
func TestBack(t *testing.T) {
	for _, h := range hashes(60) {
		for _, s := range samples(60) {
			if got := hash.Back(after(h, s), s); got != h {
				t.Fatalf("%x %q: %x", h, s, got)
			}
			if got := after(hash.Back(h, s), s); got != h {
				t.Fatalf("before %x %q: %x", h, s, got)
			}
		}
		for b := range 256 {
			if s := string([]byte{byte(b)}); hash.Back(after(h, s), s) != h {
				t.Fatalf("%x %q", h, s)
			}
		}
		if got := hash.Back(h, ""); got != h {
			t.Fatalf("%x: %x", h, got)
		}
	}
	if got := hash.Back(hash.Sum("foobar"), "bar"); got != hash.Sum("foo") {
		t.Errorf("%x", got)
	}
}

// P2.2: few bytes 0 step by step, and many against the definition.
func TestZeros(t *testing.T) {
	for _, h := range hashes(40) {
		for n := range 70 {
			if got, e := hash.Zeros(h, n); got != after(h, strings.Repeat("\x00", n)) || e != api.OK {
				t.Fatalf("%x %d: %x %d", h, n, got, e)
			}
		}
		for _, n := range []int{1000, 1<<20 + 3, 1<<31 - 1, 1 << 31, 1<<32 + 1, 1 << 48, 1<<62 - 1, 1 << 62, math.MaxInt - 1, math.MaxInt} {
			if got, e := hash.Zeros(h, n); got != zeros(h, n) || e != api.OK {
				t.Fatalf("%x %d: %x %d", h, n, got, e)
			}
		}
	}
	if got, e := hash.Zeros(1, 1); got != prime || e != api.OK {
		t.Error(got, e)
	}
	if got, e := hash.Zeros(7, 0); got != 7 || e != api.OK {
		t.Error(got, e)
	}
}

// P2.2: numbers of bytes below 0.
func TestZerosOfLessThanNone(t *testing.T) {
	for _, n := range []int{-1, -2, math.MinInt32, math.MinInt + 1, math.MinInt} {
		for _, h := range []uint64{0, 1, offset, math.MaxUint64} {
			if got, e := hash.Zeros(h, n); got != 0 || e != api.ErrArg {
				t.Error(h, n, got, e)
			}
		}
	}
}

// P2.3: remainders, of hashes too that are greater than every int.
func TestModulo(t *testing.T) {
	for _, h := range hashes(200) {
		for _, n := range []int{1, 2, 3, 7, 10, 256, 1 << 31, 1<<32 + 1, 1 << 48, 1 << 62, math.MaxInt - 1, math.MaxInt} {
			want := new(big.Int).Mod(new(big.Int).SetUint64(h), big.NewInt(int64(n)))
			if got, e := hash.Modulo(h, n); int64(got) != want.Int64() || e != api.OK {
				t.Fatalf("%d %d: %d %d", h, n, got, e)
			}
		}
		for _, n := range []int{0, -1, -7, math.MinInt + 1, math.MinInt} {
			if got, e := hash.Modulo(h, n); got != 0 || e != api.ErrArg {
				t.Fatalf("%d %d: %d %d", h, n, got, e)
			}
		}
	}
	if got, e := hash.Modulo(100, 7); got != 2 || e != api.OK {
		t.Error(got, e)
	}
}

// P2.3: each byte leads on, and is found again.
func TestLast(t *testing.T) {
	for _, from := range hashes(60) {
		for b := range 256 {
			if got, e := hash.Last(from, after(from, string([]byte{byte(b)}))); int(got) != b || e != api.OK {
				t.Fatalf("%x %d: %d %d", from, b, got, e)
			}
		}
	}
	if got, e := hash.Last(offset, hash.Sum("a")); got != 97 || e != api.OK {
		t.Error(got, e)
	}
}

// P2.3: hashes to which no byte leads, just beyond a byte among them.
func TestNoLast(t *testing.T) {
	for _, from := range hashes(60) {
		for _, x := range append(hashes(40), 0x1000, 1<<16, 1<<56) {
			if x < 0x100 {
				continue
			}
			if got, e := hash.Last(from, (from^x)*prime); got != 0 || e != api.ErrNone {
				t.Fatalf("%x %x: %d %d", from, x, got, e)
			}
		}
	}
	for _, s := range []string{"", "aa", "foobar"} {
		if got, e := hash.Last(offset, hash.Sum(s)); got != 0 || e != api.ErrNone {
			t.Error(s, got, e)
		}
	}
}

// P2.3: of all hashes near one, just those are found to which a byte leads.
func TestLastFindsJustOnes(t *testing.T) {
	from := offset
	next := map[uint64]int{}
	for b := range 256 {
		next[after(from, string([]byte{byte(b)}))] = b
	}
	near := after(from, "a")
	for to := near - 5000; to != near+5000; to++ {
		b, ok := next[to]
		got, e := hash.Last(from, to)
		if ok && (int(got) != b || e != api.OK) || !ok && (got != 0 || e != api.ErrNone) {
			t.Fatalf("%x: %d %d", to, got, e)
		}
	}
}

// P2.4 and P2.5: texts, and back.
func TestTexts(t *testing.T) {
	l := hashes(500)
	for i := range 64 {
		l = append(l, 1<<i, 15<<i)
	}
	for _, h := range l {
		s := hash.Text(h)
		if want := fmt.Sprintf("%016x", h); s != want {
			t.Fatalf("%d: %q, not %q", h, s, want)
		}
		if got, e := hash.Read(s); got != h || e != api.OK {
			t.Fatalf("%q: %x %d", s, got, e)
		}
	}
	if s := hash.Text(255); s != "00000000000000ff" {
		t.Error(s)
	}
	if h, e := hash.Read("0123456789abcdef"); h != 0x0123456789abcdef || e != api.OK {
		t.Error(h, e)
	}
}

// P2.4: each byte in each place of a text; just small hexadecimal digits are right.
func TestBytesOfTexts(t *testing.T) {
	const text = "fedcba9876543210"
	for at := range len(text) {
		for c := range 256 {
			b := []byte(text)
			b[at] = byte(c)
			var want uint64
			right := strings.IndexByte("0123456789abcdef", byte(c)) >= 0
			if right {
				fmt.Sscanf(string(b), "%x", &want)
			}
			h, e := hash.Read(string(b))
			if right && (h != want || e != api.OK) || !right && (h != 0 || e != hash.ErrText) {
				t.Fatalf("%q: %x %d", b, h, e)
			}
		}
	}
}

// P2.4: strings of other lengths, and with more than digits.
func TestNoTexts(t *testing.T) {
	for n := range 100 {
		if n == 16 {
			continue
		}
		for _, digit := range []string{"0", "a", "f", "\x00"} {
			if h, e := hash.Read(strings.Repeat(digit, n)); h != 0 || e != hash.ErrText {
				t.Errorf("%d times %q: %x %d", n, digit, h, e)
			}
		}
	}
	for _, s := range []string{
		"00000000000000FF", "0x00000000000000", "+00000000000000f", "-00000000000000f", " 00000000000000f", "00000000000000f ",
		"00000000000000f\n", "0000_0000_0000_0", "00000000000000é", "000000000000000g", "g000000000000000", "00000000000000000f", "000000000000000fg",
	} {
		if h, e := hash.Read(s); h != 0 || e != hash.ErrText {
			t.Errorf("%q: %x %d", s, h, e)
		}
	}
}

// P2.5: strings one after the other, in both directions.
func TestOneAfterTheOther(t *testing.T) {
	for _, s := range samples(60) {
		for k := range len(s) + 1 {
			a, b := s[:k], s[k:]
			if hash.Add(hash.Sum(a), b) != hash.Sum(s) || hash.Back(hash.Sum(s), b) != hash.Sum(a) || hash.Back(hash.Back(hash.Sum(s), b), a) != offset {
				t.Fatalf("%q %q", a, b)
			}
		}
	}
}

// P2.5: a change of one byte changes the hash, and hashes that differ lead to others.
func TestDifferentStayDifferent(t *testing.T) {
	const s = "gauger\x00\xff"
	for at := range len(s) {
		known := map[uint64]bool{}
		for c := range 256 {
			b := []byte(s)
			b[at] = byte(c)
			known[hash.Sum(string(b))] = true
		}
		if len(known) != 256 {
			t.Error(at, len(known))
		}
	}
	l := hashes(3000)
	for _, s := range samples(30) {
		known := map[uint64]bool{}
		for _, h := range l {
			known[hash.Add(h, s)] = true
		}
		if len(known) != len(l) {
			t.Errorf("%q: %d", s, len(known))
		}
	}
}

// P2.5: bytes 0 one after the other are bytes 0 at once, and lead back.
func TestZerosOneAfterTheOther(t *testing.T) {
	for _, h := range hashes(30) {
		for _, n := range []int{0, 1, 2, 63, 1000} {
			for _, m := range []int{0, 1, 5, 1 << 40, 1<<62 - 1} {
				first, _ := hash.Zeros(h, n)
				then, e := hash.Zeros(first, m)
				once, f := hash.Zeros(h, n+m)
				if then != once || e != api.OK || f != api.OK || hash.Back(first, strings.Repeat("\x00", n)) != h {
					t.Fatalf("%x %d %d: %x %x", h, n, m, then, once)
				}
			}
		}
	}
}

// R3: the list of parts, and what it has room for, stay as they were.
func TestArgumentsStay(t *testing.T) {
	all := []string{"a", "", "c", "behind", "last"}
	for n := range len(all) {
		want := hash.Parts(slices.Clone(all[:n]))
		if got := hash.Parts(all[:n]); got != want || !slices.Equal(all, []string{"a", "", "c", "behind", "last"}) {
			t.Errorf("%d: %x %q", n, got, all)
		}
	}
}

// R4 and R5: a call answers the same after others, and nil is as good as empty.
func TestSameAgain(t *testing.T) {
	for range 3 {
		hash.Sum("other")
		hash.Zeros(9, 9)
		hash.Read("wrong")
		h, e := hash.Read("00000000000000ff")
		if hash.Sum("a") != 0xaf63dc4c8601ec8c || h != 255 || e != api.OK || hash.Parts(nil) != hash.Parts([]string{}) {
			t.Error(hash.Sum("a"), h, e)
		}
	}
}

// Limits: a long string, and many parts.
func TestLong(t *testing.T) {
	s := strings.Repeat("gauger", 1<<20)
	library := fnv.New64a()
	library.Write([]byte(s))
	if got := hash.Sum(s); got != library.Sum64() || hash.Back(got, s) != offset {
		t.Errorf("%x", got)
	}
	zero, _ := hash.Zeros(offset, 8*(1<<20))
	if got := hash.Parts(make([]string, 1<<20)); got != zero {
		t.Errorf("%x", got)
	}
}
