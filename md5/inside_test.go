package md5

import (
	"syscall"
	"testing"

	"gauger/api"
)

// What no test from outside can reach: nobody waits until MaxLength bytes are written, nor knows a block that leads to the state of zeros. So these tests say what a digest has.

// P3.4: up to just MaxLength bytes are taken.
func TestFull(t *testing.T) {
	for left := range 200 {
		full := Digest{state: Start(), length: MaxLength - left}
		d := full
		for _, more := range []int{1, 2, Block, 1000} {
			if e := d.Write(make([]byte, left+more)); e != api.ErrFull || d != full {
				t.Fatal(left, more, e)
			}
		}
		if e := d.Write(make([]byte, left)); e != api.OK || d.Len() != MaxLength {
			t.Fatal(left, e, d.Len())
		}
		if e := d.Write(make([]byte, 1)); e != api.ErrFull || d.Len() != MaxLength {
			t.Fatal(left, e, d.Len())
		}
		if e := d.Write(nil); e != api.OK || d.Len() != MaxLength {
			t.Fatal(left, e, d.Len())
		}
	}
}

// P3.4: of MaxLength bytes there is a digest still, and they are taken away as others are.
func TestSumOfFull(t *testing.T) {
	d := &Digest{state: Start(), length: MaxLength}
	// A step with the padding alone, for the bytes are a number of full blocks.
	p, e := Padding(MaxLength)
	if len(p) != Block || e != api.OK {
		t.Fatal(p, e)
	}
	s, e := Step(Start(), p)
	if e != api.OK {
		t.Fatal(e)
	}
	var want [Size]byte
	for i := range want {
		want[i] = byte(s[i/4] >> (8 * (i % 4)))
	}
	if got, e := d.Sum(); got != want || e != api.OK {
		t.Errorf("%x %d", got, e)
	}
	if e := d.Reset(); e != api.OK || d.Len() != 0 || *d != *New() {
		t.Error(e, d.Len())
	}
}

// P3.4 and R2: more than MaxLength bytes at once. Pages that may not be read have as many; whoever is full does not read them.
func TestTooMuchAtOnce(t *testing.T) {
	b, err := syscall.Mmap(-1, 0, MaxLength+1, syscall.PROT_NONE, syscall.MAP_ANON|syscall.MAP_PRIVATE|syscall.MAP_NORESERVE)
	if err != nil {
		t.Skip("this machine gives no slice of that length: ", err)
	}
	defer syscall.Munmap(b)
	d := New()
	if e := d.Write(b); e != api.ErrFull || *d != *New() {
		t.Error(e, d.Len())
	}
	if e := d.Write([]byte("a")); e != api.OK {
		t.Error(e)
	}
	if e := d.Write(b[:MaxLength]); e != api.ErrFull || d.Len() != 1 {
		t.Error(e, d.Len())
	}
	for i, d := range []*Digest{nil, {}} {
		if e := d.Write(b); e != api.ErrNil {
			t.Error(i, e)
		}
	}
}

// R8: a digest with bytes is an object, even if these led to the state of zeros.
func TestStateOfZeros(t *testing.T) {
	d := &Digest{length: Block}
	if got, e := d.Sum(); got == [Size]byte{} || e != api.OK || d.Len() != Block {
		t.Error(got, e, d.Len())
	}
	if e := d.Write([]byte("a")); e != api.OK || d.Len() != Block+1 {
		t.Error(e, d.Len())
	}
	if e := d.Reset(); e != api.OK || *d != *New() {
		t.Error(e, d.Len())
	}
}
