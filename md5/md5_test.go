package md5_test

import (
	"bytes"
	"crypto/md5"
	"encoding/binary"
	"encoding/hex"
	"fmt"
	"math"
	"math/big"
	"math/rand"
	"slices"
	"strings"
	"testing"

	"gauger/api"
	own "gauger/md5"
)

// The text of the digest of no bytes.
const none = "d41d8cd98f00b204e9800998ecf8427e"

// Texts of digests that are known, those of the chapter among them.
var known = []struct{ s, text string }{
	{"", none},
	{"a", "0cc175b9c0f1b6a831c399e269772661"},
	{"abc", "900150983cd24fb0d6963f7d28e17f72"},
	{"message digest", "f96b697d7cb7938d525a2f31aaf161d0"},
	{"abcdefghijklmnopqrstuvwxyz", "c3fcd3d76192e4007dfb496cca67e13b"},
	{"ABCDEFGHIJKLMNOPQRSTUVWXYZabcdefghijklmnopqrstuvwxyz0123456789", "d174ab98d277d9f5a5611c2c9f419d9f"},
	{strings.Repeat("1234567890", 8), "57edf4a22be3c955ac49da2e2107b67a"},
}

// turn returns F and g of the chapter, by the four ranges of i.
func turn(i int, b, c, d uint32) (uint32, int) {
	switch {
	case i < 16:
		return (b & c) | (^b & d), i
	case i < 32:
		return (d & b) | (^d & c), (5*i + 1) % 16
	case i < 48:
		return b ^ c ^ d, (3*i + 5) % 16
	}
	return c ^ (b | ^d), (7 * i) % 16
}

// stepped is the state after a step as the chapter defines it; the constants are those that sines give, so that they do not depend on the package's table.
func stepped(s own.State, block []byte) own.State {
	a, b, c, d := s[0], s[1], s[2], s[3]
	for i := range 64 {
		r := []int{7, 12, 17, 22, 5, 9, 14, 20, 4, 11, 16, 23, 6, 10, 15, 21}[i/16*4+i%4]
		f, g := turn(i, b, c, d)
		t := a + f + uint32(math.Floor(math.Abs(math.Sin(float64(i+1)))*(1<<32))) + binary.LittleEndian.Uint32(block[4*g:])
		a, b, c, d = d, b+(t<<r|t>>(32-r)), b, c
	}
	return own.State{s[0] + a, s[1] + b, s[2] + c, s[3] + d}
}

// padded is the padding of n bytes as the chapter defines it: bytes 0 are put behind the first one until the whole fits.
func padded(n int) []byte {
	p := []byte{128}
	for (n+len(p)+8)%64 != 0 {
		p = append(p, 0)
	}
	return binary.LittleEndian.AppendUint64(p, 8*uint64(n))
}

// random returns random bytes; the same ones for the same seed.
func random(seed int64, n int) []byte {
	b := make([]byte, n)
	rand.New(rand.NewSource(seed)).Read(b)
	return b
}

// inputs returns bytes of each length up to a few blocks, and of some borders beyond.
func inputs() [][]byte {
	var l [][]byte
	for n := range 260 {
		l = append(l, random(int64(n), n), make([]byte, n), bytes.Repeat([]byte{0xff}, n))
	}
	for _, n := range []int{511, 512, 513, 4095, 4096, 4097, 8191, 8192, 8193, 65536, 100003} {
		l = append(l, random(int64(n), n))
	}
	return l
}

// states returns states at borders, and others; the same ones each time.
func states() []own.State {
	l := []own.State{{}, {1}, {0, 1}, {0, 0, 1}, {0, 0, 0, 1}, {math.MaxUint32, math.MaxUint32, math.MaxUint32, math.MaxUint32}, {1 << 31, 1 << 31, 1 << 31, 1 << 31}, own.Start()}
	r := rand.New(rand.NewSource(5))
	for len(l) < 60 {
		l = append(l, own.State{r.Uint32(), r.Uint32(), r.Uint32(), r.Uint32()})
	}
	return l
}

// written returns a digest with bytes, which were written at once.
func written(t *testing.T, b []byte) *own.Digest {
	t.Helper()
	d := own.New()
	if e := d.Write(b); e != api.OK {
		t.Fatal(e)
	}
	return d
}

// holds checks that a digest has just these bytes.
func holds(t *testing.T, d *own.Digest, b []byte) {
	t.Helper()
	if got, e := d.Sum(); got != md5.Sum(b) || e != api.OK || d.Len() != len(b) {
		t.Fatalf("of %d bytes: %x %d, %d bytes", len(b), got, e, d.Len())
	}
}

func TestConstants(t *testing.T) {
	if own.Size != 16 || own.Block != 64 || own.ErrText != 30 || own.MaxLength != 1<<40 {
		t.Error(own.Size, own.Block, own.ErrText, own.MaxLength)
	}
}

// P3.1: the first state.
func TestStart(t *testing.T) {
	if s := own.Start(); s != (own.State{0x67452301, 0xefcdab89, 0x98badcfe, 0x10325476}) {
		t.Errorf("%x", s)
	}
}

// P3.1: blocks of all kinds after states of all kinds, against the definition.
func TestStepAgainstDefinition(t *testing.T) {
	blocks := [][]byte{make([]byte, 64), bytes.Repeat([]byte{0xff}, 64), bytes.Repeat([]byte{0x80}, 64)}
	for at := range 64 {
		b := make([]byte, 64)
		b[at] = byte(at + 1)
		blocks = append(blocks, b, random(int64(at), 64))
	}
	for _, s := range states() {
		for i, b := range blocks {
			if got, e := own.Step(s, b); got != stepped(s, b) || e != api.OK {
				t.Fatalf("%x, block %d: %x %d", s, i, got, e)
			}
		}
	}
}

// P3.1: steps whose state is known, as it is that of a digest.
func TestKnownStep(t *testing.T) {
	block := make([]byte, 64)
	block[0] = 128
	if s, e := own.Step(own.Start(), block); s != (own.State{0xd98c1dd4, 0x04b2008f, 0x980980e9, 0x7e42f8ec}) || e != api.OK {
		t.Errorf("%x %d", s, e)
	}
}

// P3.1: just 64 bytes are a block, whatever the slice has room for.
func TestStepOfNoBlock(t *testing.T) {
	for n := range 300 {
		if n == 64 {
			continue
		}
		for _, b := range [][]byte{random(1, n), random(1, 400)[:n]} {
			if s, e := own.Step(own.Start(), b); s != (own.State{}) || e != api.ErrArg {
				t.Fatalf("%d: %x %d", n, s, e)
			}
		}
	}
	if s, e := own.Step(own.State{}, nil); s != (own.State{}) || e != api.ErrArg {
		t.Errorf("%x %d", s, e)
	}
}

// P3.1: paddings against the definition, and up to the greatest number of bytes.
func TestPadding(t *testing.T) {
	l := []int{1 << 20, 1<<28 - 1, 1 << 29, 1<<31 - 1, 1 << 32, 1<<37 + 5, 1 << 39}
	for n := range 400 {
		l = append(l, n, own.MaxLength-n)
	}
	for _, n := range l {
		if got, e := own.Padding(n); !bytes.Equal(got, padded(n)) || e != api.OK {
			t.Fatalf("%d: %x %d", n, got, e)
		}
	}
}

// P3.1: paddings that the chapter tells.
func TestKnownPaddings(t *testing.T) {
	for n, want := range map[int][]byte{
		0:  append([]byte{128}, make([]byte, 63)...),
		55: {128, 184, 1, 0, 0, 0, 0, 0, 0},
	} {
		if got, e := own.Padding(n); !bytes.Equal(got, want) || e != api.OK {
			t.Errorf("%d: %x %d", n, got, e)
		}
	}
	if got, e := own.Padding(56); len(got) != 72 || e != api.OK {
		t.Errorf("%x %d", got, e)
	}
}

// P3.1: numbers of bytes that have no padding.
func TestNoPadding(t *testing.T) {
	for _, n := range []int{-1, -8, -56, -64, math.MinInt + 1, math.MinInt, own.MaxLength + 1, own.MaxLength + 64, 1 << 41, 1 << 62, math.MaxInt - 8, math.MaxInt} {
		if got, e := own.Padding(n); len(got) != 0 || e != api.ErrArg {
			t.Errorf("%d: %x %d", n, got, e)
		}
	}
}

// P3.2: digests that are known, against the library, and against the definition.
func TestSum(t *testing.T) {
	for _, c := range known {
		if got := own.Sum([]byte(c.s)); hex.EncodeToString(got[:]) != c.text {
			t.Errorf("%q: %x", c.s, got)
		}
	}
	for _, b := range inputs() {
		if got := own.Sum(b); got != md5.Sum(b) {
			t.Fatalf("%d bytes: %x", len(b), got)
		}
	}
	for b := range 256 {
		if got := own.Sum([]byte{byte(b)}); got != md5.Sum([]byte{byte(b)}) {
			t.Fatalf("%d: %x", b, got)
		}
	}
}

// P3.2: words are the later half of digests, the highest byte first.
func TestWord(t *testing.T) {
	for _, b := range inputs() {
		sum := md5.Sum(b)
		if got := own.Word(b); got != binary.BigEndian.Uint64(sum[8:]) {
			t.Fatalf("%d bytes: %x", len(b), got)
		}
	}
	if got := own.Word(nil); got != 0xe9800998ecf8427e {
		t.Errorf("%x", got)
	}
	if got := own.Word([]byte("abc")); got != 0xd6963f7d28e17f72 {
		t.Errorf("%x", got)
	}
}

// P3.2: buckets, of numbers of them too that are greater than every int.
func TestModulo(t *testing.T) {
	for i, b := range inputs() {
		sum := md5.Sum(b)
		w := new(big.Int).SetBytes(sum[8:])
		for _, n := range []uint64{1, 2, 3, 7, 10, 256, 1<<32 + 1, 1<<63 - 1, 1 << 63, 1<<63 + 1, math.MaxUint64 - 1, math.MaxUint64} {
			want := new(big.Int).Mod(w, new(big.Int).SetUint64(n))
			if got, e := own.Modulo(b, n); got != want.Uint64() || e != api.OK {
				t.Fatalf("%d, %d: %d %d", i, n, got, e)
			}
		}
		if got, e := own.Modulo(b, 0); got != 0 || e != api.ErrArg {
			t.Fatalf("%d: %d %d", i, got, e)
		}
	}
	// A word that is less than the number of buckets is its own bucket, and just the word itself leaves nothing.
	w := own.Word([]byte("abc"))
	for n, want := range map[uint64]uint64{w: 0, w + 1: w, w - 1: 1} {
		if got, e := own.Modulo([]byte("abc"), n); got != want || e != api.OK {
			t.Errorf("%x: %x %d", n, got, e)
		}
	}
}

// P3.3 and P3.5: texts, and back.
func TestTexts(t *testing.T) {
	l := [][own.Size]byte{{}, {0: 1}, {15: 1}, {0: 0xf0}, {15: 0x0f}}
	for b := range 256 {
		l = append(l, [own.Size]byte(bytes.Repeat([]byte{byte(b)}, own.Size)), [own.Size]byte(random(int64(b), own.Size)))
	}
	for _, d := range l {
		s := own.Text(d)
		if s != fmt.Sprintf("%032x", d[:]) {
			t.Fatalf("%x: %q", d, s)
		}
		if got, e := own.Read(s); got != d || e != api.OK {
			t.Fatalf("%q: %x %d", s, got, e)
		}
	}
	for _, c := range known {
		d := md5.Sum([]byte(c.s))
		if s := own.Text(d); s != c.text {
			t.Errorf("%q: %q", c.s, s)
		}
		if got, e := own.Read(c.text); got != d || e != api.OK {
			t.Errorf("%q: %x %d", c.text, got, e)
		}
	}
}

// P3.3: each byte in each place of a text; just small hexadecimal digits are right.
func TestBytesOfTexts(t *testing.T) {
	for at := range len(none) {
		for c := range 256 {
			b := []byte(none)
			b[at] = byte(c)
			d, e := own.Read(string(b))
			if strings.IndexByte("0123456789abcdef", byte(c)) < 0 {
				if d != [own.Size]byte{} || e != own.ErrText {
					t.Fatalf("%q: %x %d", b, d, e)
				}
				continue
			}
			if want, err := hex.DecodeString(string(b)); err != nil || !bytes.Equal(d[:], want) || e != api.OK {
				t.Fatalf("%q: %x %d", b, d, e)
			}
		}
	}
}

// P3.3: strings of other lengths, and with more than digits.
func TestNoTexts(t *testing.T) {
	for n := range 200 {
		if n == 32 {
			continue
		}
		for _, digit := range []string{"0", "a", "f", "\x00"} {
			if d, e := own.Read(strings.Repeat(digit, n)); d != [own.Size]byte{} || e != own.ErrText {
				t.Errorf("%d times %q: %x %d", n, digit, d, e)
			}
		}
	}
	for _, s := range []string{
		strings.ToUpper(none), "0x" + none[2:], "+" + none[1:], " " + none[1:], none[1:] + " ", none[1:] + "\n", none + "\n", none[2:] + "é",
		strings.Repeat("0", 31) + "g", "g" + strings.Repeat("0", 31), strings.Repeat("0_", 16), strings.Repeat("\x00", 32), strings.Repeat("f", 32) + "g",
	} {
		if d, e := own.Read(s); d != [own.Size]byte{} || e != own.ErrText {
			t.Errorf("%q: %x %d", s, d, e)
		}
	}
}

// P3.4: a new digest has no bytes.
func TestNew(t *testing.T) {
	holds(t, own.New(), nil)
}

// P3.4: bytes are put behind those that are there, and a sum, which may be taken at any time, takes none away.
func TestWrite(t *testing.T) {
	r := rand.New(rand.NewSource(7))
	for range 60 {
		d := own.New()
		var all []byte
		for range 40 {
			p := random(r.Int63(), r.Intn(200)*r.Intn(2)+r.Intn(10))
			all = append(all, p...)
			if e := d.Write(p); e != api.OK {
				t.Fatal(e)
			}
			holds(t, d, all)
			holds(t, d, all)
		}
	}
}

// P3.4: nothing that is written changes nothing.
func TestWriteOfNothing(t *testing.T) {
	for n := range 200 {
		b := random(9, n)
		d := written(t, b)
		for _, nothing := range [][]byte{nil, {}, b[:0]} {
			if e := d.Write(nothing); e != api.OK {
				t.Fatal(n, e)
			}
			holds(t, d, b)
		}
	}
}

// P3.4: after a reset a digest is as a new one.
func TestReset(t *testing.T) {
	d := own.New()
	for _, b := range inputs() {
		for _, then := range [][]byte{nil, []byte("abc"), b} {
			if e := d.Write(b); e != api.OK {
				t.Fatal(e)
			}
			if e := d.Reset(); e != api.OK {
				t.Fatal(e)
			}
			holds(t, d, nil)
			if e := d.Write(then); e != api.OK {
				t.Fatal(e)
			}
			holds(t, d, then)
			if e := d.Reset(); e != api.OK {
				t.Fatal(e)
			}
		}
	}
}

// P3.4 and R8: what is no object has no bytes, and gets none.
func TestNoObject(t *testing.T) {
	for i, d := range []*own.Digest{nil, {}, new(own.Digest)} {
		for range 2 {
			for _, b := range [][]byte{nil, []byte("a"), make([]byte, 64), make([]byte, 200)} {
				if e := d.Write(b); e != api.ErrNil {
					t.Error(i, len(b), e)
				}
			}
			if got, e := d.Sum(); got != [own.Size]byte{} || e != api.ErrNil {
				t.Error(i, got, e)
			}
			if n := d.Len(); n != 0 {
				t.Error(i, n)
			}
			if e := d.Reset(); e != api.ErrNil {
				t.Error(i, e)
			}
		}
		if d != nil && *d != (own.Digest{}) {
			t.Error(i, "changed")
		}
	}
	// A digest that was put to its zero value is none any more.
	d := written(t, []byte("abc"))
	*d = own.Digest{}
	if _, e := d.Sum(); e != api.ErrNil || d.Len() != 0 {
		t.Error(e, d.Len())
	}
}

// P3.5: bytes in two pieces, cut anywhere, and in pieces of one size.
func TestPieces(t *testing.T) {
	b := random(11, 300)
	for k := range len(b) + 1 {
		for _, n := range []int{k, min(k+64, len(b)), len(b)} {
			d := written(t, b[:k])
			if e := d.Write(b[k:n]); e != api.OK {
				t.Fatal(k, n, e)
			}
			holds(t, d, b[:n])
		}
	}
	for size := 1; size < 140; size++ {
		d := own.New()
		for piece := range slices.Chunk(b, size) {
			if e := d.Write(piece); e != api.OK {
				t.Fatal(size, e)
			}
		}
		holds(t, d, b)
	}
}

// P3.5: the digest is the state after steps with the blocks of the bytes and their padding.
func TestSumIsOfSteps(t *testing.T) {
	for _, b := range inputs() {
		p, e := own.Padding(len(b))
		if e != api.OK {
			t.Fatal(e)
		}
		s := own.Start()
		for block := range slices.Chunk(slices.Concat(b, p), own.Block) {
			if s, e = own.Step(s, block); e != api.OK {
				t.Fatal(len(b), e)
			}
		}
		var want []byte
		for _, w := range s {
			want = binary.LittleEndian.AppendUint32(want, w)
		}
		if got := own.Sum(b); !bytes.Equal(got[:], want) {
			t.Fatalf("%d bytes: %x", len(b), got)
		}
		holds(t, written(t, b), b)
	}
}

// R3: arguments stay, and so does what they have room for.
func TestArgumentsStay(t *testing.T) {
	for _, n := range []int{0, 1, 55, 56, 63, 64, 65, 128, 200} {
		all := random(13, 300)
		b := all[:n]
		own.Step(own.Start(), b)
		own.Sum(b)
		own.Word(b)
		own.Modulo(b, 7)
		d := written(t, b)
		d.Sum()
		d.Write(b)
		d.Reset()
		if !bytes.Equal(all, random(13, 300)) {
			t.Error(n)
		}
	}
}

// R3: what was written is not kept: it may change, and the digest stays.
func TestWrittenBytesAreNotKept(t *testing.T) {
	for n := range 200 {
		b := random(17, n)
		d := written(t, b)
		for i := range b {
			b[i]++
		}
		holds(t, d, random(17, n))
	}
}

// R3: paddings share no memory.
func TestPaddingsAreNew(t *testing.T) {
	for _, n := range []int{0, 55, 56, 100} {
		first, _ := own.Padding(n)
		second, _ := own.Padding(n)
		for i := range first {
			first[i]++
		}
		third, e := own.Padding(n)
		if !bytes.Equal(second, padded(n)) || !bytes.Equal(third, padded(n)) || e != api.OK {
			t.Errorf("%d: %x %x %d", n, second, third, e)
		}
	}
}

// R4: a call answers the same after others, and digests do not know of each other.
func TestSameAgain(t *testing.T) {
	one, other := written(t, []byte("one")), written(t, random(19, 100))
	for range 3 {
		own.Read("wrong")
		own.Padding(-1)
		own.Sum([]byte("other"))
		holds(t, one, []byte("one"))
		holds(t, other, random(19, 100))
		holds(t, own.New(), nil)
	}
	if e := one.Reset(); e != api.OK {
		t.Error(e)
	}
	holds(t, one, nil)
	holds(t, other, random(19, 100))
}

// R5: nil is as good as empty.
func TestNilIsEmpty(t *testing.T) {
	if own.Sum(nil) != own.Sum([]byte{}) || own.Word(nil) != own.Word([]byte{}) {
		t.Error("differ")
	}
	n, e := own.Modulo(nil, 16)
	m, f := own.Modulo([]byte{}, 16)
	if n != m || n != 14 || e != api.OK || f != api.OK {
		t.Error(n, e, m, f)
	}
}

// Limits: many bytes, whose number of bits has more than four bytes, in pieces.
func TestLong(t *testing.T) {
	if testing.Short() {
		t.Skip()
	}
	piece := random(23, 1<<20)
	d, library := own.New(), md5.New()
	for range 513 {
		library.Write(piece)
		if e := d.Write(piece); e != api.OK {
			t.Fatal(e)
		}
	}
	got, e := d.Sum()
	if !bytes.Equal(got[:], library.Sum(nil)) || e != api.OK || d.Len() != 513<<20 {
		t.Errorf("%x %d %d", got, e, d.Len())
	}
}
