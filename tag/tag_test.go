package tag

import (
	"bytes"
	"encoding/binary"
	"hash/adler32"
	"math"
	"testing"

	"garret/api"
)

const limit = 1<<31 - 1

// spare lays the bytes of a tag by the library's means, with the right sum over them.
func spare(no, index, data uint32) []byte {
	var b []byte
	for _, v := range []uint32{no, index, data} {
		b = binary.LittleEndian.AppendUint32(b, v)
	}
	return binary.LittleEndian.AppendUint32(b, adler32.Checksum(b))
}

func TestOfTakesNumbersAndSumOfData(t *testing.T) {
	for _, r := range []struct {
		name      string
		no, index int
		data      []byte
		want      api.Tag
	}{
		{"nothing", 0, 0, nil, api.Tag{Sum: 1}},
		{"an empty list is as nil", 0, 0, []byte{}, api.Tag{Sum: 1}},
		{"a page", 258, 3, []byte("Wikipedia"), api.Tag{No: 258, Index: 3, Sum: 0x11e6_0398}},
		{"the limits", limit, limit, []byte{0}, api.Tag{No: limit, Index: limit, Sum: 0x0001_0001}},
		{"what Write will refuse", -1, limit + 1, []byte{1}, api.Tag{No: -1, Index: limit + 1, Sum: 0x0002_0002}},
		{"least and greatest", math.MinInt, math.MaxInt, []byte{1}, api.Tag{No: math.MinInt, Index: math.MaxInt, Sum: 0x0002_0002}},
	} {
		if got := Of(r.no, r.index, r.data); got != r.want {
			t.Errorf("%s: %+v; want %+v", r.name, got, r.want)
		}
	}
}

func TestWriteLaysFieldsAndTheirSum(t *testing.T) {
	for _, r := range []struct {
		name string
		t    api.Tag
		want []byte
	}{
		{"zeros", api.Tag{}, []byte{0, 0, 0, 0, 0, 0, 0, 0, 0, 0, 0, 0, 1, 0, 12, 0}},
		{"No, Index and Sum, each the lowest byte first", api.Tag{No: 0x01020304, Index: 0x05060708, Sum: 0xf1e2d3c4}, []byte{4, 3, 2, 1, 8, 7, 6, 5, 0xc4, 0xd3, 0xe2, 0xf1, 0x8f, 3, 0x66, 9}},
		{"the limits", api.Tag{No: limit, Index: limit, Sum: math.MaxUint32}, spare(limit, limit, math.MaxUint32)},
	} {
		if got, e := Write(r.t); !bytes.Equal(got, r.want) || e != api.OK {
			t.Errorf("%s: %v, %d; want %v", r.name, got, e, r.want)
		}
	}
}

func TestWriteRefusesNumbersOutsideLimits(t *testing.T) {
	for _, v := range []int{-1, math.MinInt32, math.MinInt, limit + 1, 1 << 32, 1<<32 + 5, math.MaxInt} {
		for _, x := range []api.Tag{{No: v, Index: 1, Sum: 7}, {No: 1, Index: v, Sum: 7}, {No: v, Index: v, Sum: 7}} {
			if b, e := Write(x); len(b) != 0 || e != api.ErrArg {
				t.Errorf("%+v: %v, %d", x, b, e)
			}
		}
	}
}

func TestWhatIsWrittenIsRead(t *testing.T) {
	numbers := []int{0, 1, 255, 256, 65_536, 1 << 24, limit - 1, limit}
	for _, no := range numbers {
		for _, index := range numbers {
			for _, s := range []uint32{0, 1, 0x1234_5678, 1 << 31, math.MaxUint32} {
				x := api.Tag{No: no, Index: index, Sum: s}
				b, e := Write(x)
				if len(b) != api.Spare || e != api.OK {
					t.Fatalf("Write of %+v: %v, %d", x, b, e)
				}
				if got, e := Read(b); got != x || e != api.OK {
					t.Errorf("Read of %+v: %+v, %d", x, got, e)
				}
			}
		}
	}
}

func TestReadRefusesOtherLengths(t *testing.T) {
	right := spare(258, 3, 77)
	if x, e := Read(nil); x != (api.Tag{}) || e != api.ErrShort {
		t.Errorf("nothing: %+v, %d", x, e)
	}
	for n := range 3 * api.Spare {
		// The first bytes are those of a right area, with right room behind the end, too.
		b := bytes.Repeat(right, 3)[:n]
		want := api.ErrShort
		if n == api.Spare {
			want = api.OK
		}
		if x, e := Read(b); e != want || e != api.OK && x != (api.Tag{}) {
			t.Errorf("%d bytes: %+v, %d; want %d", n, x, e, want)
		}
	}
}

func TestReadSeesEachOtherByte(t *testing.T) {
	for _, right := range [][]byte{spare(0, 0, 0), spare(258, 3, 77), spare(limit, limit, math.MaxUint32)} {
		for i, was := range right {
			for other := range 256 {
				b := bytes.Clone(right)
				b[i] = byte(other)
				if b[i] == was {
					continue
				}
				if x, e := Read(b); x != (api.Tag{}) || e != api.ErrSum {
					t.Errorf("byte %d is %d, was %d: %+v, %d", i, other, was, x, e)
				}
			}
		}
	}
}

func TestReadRefusesAreasThatAreNoTag(t *testing.T) {
	for _, v := range []byte{0, 85, 170, 255} {
		if x, e := Read(bytes.Repeat([]byte{v}, api.Spare)); x != (api.Tag{}) || e != api.ErrSum {
			t.Errorf("all bytes are %d: %+v, %d", v, x, e)
		}
	}
}

func TestReadRefusesNumbersAboveLimit(t *testing.T) {
	for _, v := range []uint32{limit + 1, limit + 2, math.MaxUint32} {
		for _, b := range [][]byte{spare(v, 1, 7), spare(1, v, 7), spare(v, v, 7)} {
			if x, e := Read(b); x != (api.Tag{}) || e != api.ErrArg {
				t.Errorf("%v: %+v, %d", b, x, e)
			}
			b[12] ^= 1
			if x, e := Read(b); x != (api.Tag{}) || e != api.ErrSum {
				t.Errorf("%v: %+v, %d; ErrSum counts ahead of ErrArg", b, x, e)
			}
		}
	}
}

func TestWhatIsHandedInStays(t *testing.T) {
	room := append(spare(258, 3, 77), "behind"...)
	kept := bytes.Clone(room)
	x := Of(258, 3, room[:api.Spare])
	y, _ := Read(room[:api.Spare])
	if !bytes.Equal(room, kept) {
		t.Errorf("%v; was %v", room, kept)
	}
	room[api.Spare] ^= 255
	if Of(258, 3, room[:api.Spare]) != x {
		t.Error("Of: the room behind the end plays a part")
	}
	if z, e := Read(room[:api.Spare]); z != y || e != api.OK {
		t.Errorf("Read: the room behind the end plays a part: %+v, %d", z, e)
	}
}

func TestAnswersOfWriteShareNoMemory(t *testing.T) {
	x := api.Tag{No: 258, Index: 3, Sum: 77}
	first, _ := Write(x)
	second, _ := Write(x)
	clear(first[:cap(first)])
	if third, _ := Write(x); !bytes.Equal(second, spare(258, 3, 77)) || !bytes.Equal(third, second) {
		t.Errorf("%v, %v", second, third)
	}
}
