package sum

import (
	"bytes"
	"hash/adler32"
	"math"
	"testing"
)

func TestOfSmallLists(t *testing.T) {
	for _, r := range []struct {
		name string
		b    []byte
		want uint32
	}{
		{"nil", nil, 1},
		{"an empty list is as nil", []byte{}, 1},
		{"a 0", []byte{0}, 0x0001_0001},
		{"two 0s are not one", []byte{0, 0}, 0x0002_0001},
		{"a 1", []byte{1}, 0x0002_0002},
		{"the greatest byte", []byte{255}, 0x0100_0100},
		{"the order counts", []byte{1, 2}, 0x0006_0004},
		{"the order counts, turned", []byte{2, 1}, 0x0007_0004},
		{"a text", []byte("Wikipedia"), 0x11e6_0398},
	} {
		if got := Of(r.b); got != r.want {
			t.Errorf("%s: %#x; want %#x", r.name, got, r.want)
		}
	}
}

// lowHalf answers bytes that bring p to p, with nothing reduced on the way to it: 1 and each of them.
func lowHalf(p int) []byte {
	b := bytes.Repeat([]byte{255}, (p-1)/255)
	return append(b, byte((p-1)%255))
}

func TestOfReducesLowHalfAtModulus(t *testing.T) {
	for _, r := range []struct {
		sum  int
		want uint32
	}{
		{65_520, 65_520},
		{65_521, 0},
		{65_522, 1},
		{65_535, 14},
		{65_536, 15},
	} {
		if got := Of(lowHalf(r.sum)) & 0xffff; got != r.want {
			t.Errorf("p of %d: %d; want %d", r.sum, got, r.want)
		}
	}
}

func TestOfReducesHighHalfAtModulus(t *testing.T) {
	// Each 0 adds p, which stays 1, to q: q is the number of 0s.
	for _, r := range []struct {
		zeros int
		want  uint32
	}{
		{65_520, 65_520},
		{65_521, 0},
		{65_522, 1},
		{65_536, 15},
		{2 * 65_521, 0},
	} {
		if got := Of(make([]byte, r.zeros)); got != r.want<<16|1 {
			t.Errorf("%d 0s: %#x; want %#x", r.zeros, got, r.want<<16|1)
		}
	}
}

func TestOfIsAdlersSum(t *testing.T) {
	seed := uint32(77)
	for _, n := range []int{1, 2, 16, 255, 256, 257, 4096, 5552, 5553, 65_521, 300_000} {
		mixed := make([]byte, n)
		for i := range mixed {
			seed = seed*1664525 + 1013904223
			mixed[i] = byte(seed >> 24)
		}
		for _, b := range [][]byte{mixed, bytes.Repeat([]byte{255}, n)} {
			if got, want := Of(b), adler32.Checksum(b); got != want {
				t.Errorf("%d bytes: %#x; want %#x", n, got, want)
			}
		}
	}
}

func TestOkIsOfsSumAlone(t *testing.T) {
	for _, b := range [][]byte{nil, {}, {0}, []byte("garret"), bytes.Repeat([]byte{255}, 4096)} {
		s := Of(b)
		if !Ok(b, s) {
			t.Errorf("%d bytes: their own sum is not Ok", len(b))
		}
		for bit := range 32 {
			if Ok(b, s^1<<bit) {
				t.Errorf("%d bytes: a sum with bit %d turned is Ok", len(b), bit)
			}
		}
		// A half that was not reduced stands for the same number, and is another sum.
		for _, wrong := range []uint32{s + 65_521, s + 65_521<<16, s<<16 | s>>16, math.MaxUint32} {
			if wrong != s && Ok(b, wrong) {
				t.Errorf("%d bytes: %#x is Ok; Of is %#x", len(b), wrong, s)
			}
		}
	}
}

func TestOneOtherByteIsSeen(t *testing.T) {
	b := []byte("one byte that is another one is seen\x00\xff")
	s := Of(b)
	for i, was := range b {
		for other := range 256 {
			b[i] = byte(other)
			if same := b[i] == was; Ok(b, s) != same {
				t.Errorf("byte %d is %d, was %d: Ok is %t", i, other, was, !same)
			}
		}
		b[i] = was
	}
}

func TestWhatIsHandedInStays(t *testing.T) {
	room := []byte("within, and behind")
	kept := bytes.Clone(room)
	s := Of(room[:6])
	Ok(room[:6], s)
	if !bytes.Equal(room, kept) {
		t.Errorf("%q; was %q", room, kept)
	}
	if room[6] = 'x'; Of(room[:6]) != s {
		t.Error("the room behind the end plays a part")
	}
}
