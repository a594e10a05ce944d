package codec

import (
	"bytes"
	"math"
	"strings"
	"testing"

	"garret/api"
)

const mixed = uint64(0xf1e2d3c4b5a69788)

func TestPutLaysLowestByteFirst(t *testing.T) {
	for _, r := range []struct {
		name string
		b    []byte
		v    uint64
		n    int
		want []byte
	}{
		{"the chapter's example", nil, 258, 2, []byte{2, 1}},
		{"an empty list is as nil", []byte{}, 258, 2, []byte{2, 1}},
		{"behind what is there", []byte{9, 9}, 1, 1, []byte{9, 9, 1}},
		{"all eight", nil, mixed, 8, []byte{0x88, 0x97, 0xa6, 0xb5, 0xc4, 0xd3, 0xe2, 0xf1}},
		{"the lowest five", nil, mixed, 5, []byte{0x88, 0x97, 0xa6, 0xb5, 0xc4}},
		{"higher bytes are left out", nil, 0x1ff, 1, []byte{0xff}},
		{"none", []byte{7}, mixed, 0, []byte{7}},
		{"below 0 is 0", []byte{7}, mixed, -1, []byte{7}},
		{"far below 0 is 0", []byte{7}, mixed, math.MinInt, []byte{7}},
		{"above 8 is 8", nil, 3, 9, []byte{3, 0, 0, 0, 0, 0, 0, 0}},
		{"far above 8 is 8", nil, 3, math.MaxInt, []byte{3, 0, 0, 0, 0, 0, 0, 0}},
		{"nothing behind nothing", nil, mixed, 0, nil},
	} {
		if got := Put(r.b, r.v, r.n); !bytes.Equal(got, r.want) {
			t.Errorf("%s: %v; want %v", r.name, got, r.want)
		}
	}
}

func TestGetAnswersNumberOrError(t *testing.T) {
	b := []byte{1, 2, 3, 4, 5, 6, 7, 8, 255}
	for _, r := range []struct {
		name  string
		b     []byte
		at, n int
		want  uint64
		e     api.Errno
	}{
		{"one byte", b, 0, 1, 1, api.OK},
		{"two bytes within", b, 3, 2, 0x0504, api.OK},
		{"eight bytes", b, 0, 8, 0x0807060504030201, api.OK},
		{"the highest bit", b, 1, 8, 0xff08070605040302, api.OK},
		{"the last byte", b, 8, 1, 255, api.OK},
		{"at the end", b, 9, 1, 0, api.ErrShort},
		{"over the end by one", b, 2, 8, 0, api.ErrShort},
		{"far behind the end", b, math.MaxInt, 8, 0, api.ErrShort},
		{"of nothing", nil, 0, 1, 0, api.ErrShort},
		{"n is 0", b, 0, 0, 0, api.ErrArg},
		{"n is 9, and nine are there", b, 0, 9, 0, api.ErrArg},
		{"n is below 0", b, 0, -1, 0, api.ErrArg},
		{"n is least", b, 0, math.MinInt, 0, api.ErrArg},
		{"n is greatest", b, 0, math.MaxInt, 0, api.ErrArg},
		{"at is below 0", b, -1, 1, 0, api.ErrArg},
		{"at is least", b, math.MinInt, 8, 0, api.ErrArg},
		{"ErrArg counts ahead of ErrShort: at", nil, -1, 1, 0, api.ErrArg},
		{"ErrArg counts ahead of ErrShort: n", nil, 0, 9, 0, api.ErrArg},
	} {
		if got, e := Get(r.b, r.at, r.n); got != r.want || e != r.e {
			t.Errorf("%s: %x, %d; want %x, %d", r.name, got, e, r.want, r.e)
		}
	}
}

func TestGetDoesNotLookIntoRoomBehindEnd(t *testing.T) {
	b := []byte{1, 0, 0, 0, 'a', 1, 1, 1, 1}
	if v, e := Get(b[:3], 0, 4); v != 0 || e != api.ErrShort {
		t.Errorf("Get: %d, %d", v, e)
	}
	if v, e := GetInt(b[:7], 0); v != 0 || e != api.ErrShort {
		t.Errorf("GetInt: %d, %d", v, e)
	}
	if s, next, e := GetText(b[:4], 0); s != "" || next != 0 || e != api.ErrShort {
		t.Errorf("GetText: %q, %d, %d", s, next, e)
	}
}

func TestNumbersArePutAndGot(t *testing.T) {
	for _, v := range []uint64{0, 1, 255, 256, mixed, 1 << 63, math.MaxUint64} {
		for n := 1; n <= 8; n++ {
			for at := range 3 {
				b := append(Put(make([]byte, at), v, n), 77)
				want := v << (64 - 8*n) >> (64 - 8*n)
				if got, e := Get(b, at, n); got != want || e != api.OK {
					t.Errorf("%x in %d bytes at %d: %x, %d", v, n, at, got, e)
				}
			}
		}
	}
}

func TestIntsHaveEightBytes(t *testing.T) {
	for _, r := range []struct {
		v    int
		want []byte
	}{
		{0, []byte{0, 0, 0, 0, 0, 0, 0, 0}},
		{258, []byte{2, 1, 0, 0, 0, 0, 0, 0}},
		{-1, []byte{255, 255, 255, 255, 255, 255, 255, 255}},
		{-258, []byte{254, 254, 255, 255, 255, 255, 255, 255}},
		{math.MaxInt, []byte{255, 255, 255, 255, 255, 255, 255, 127}},
		{math.MinInt, []byte{0, 0, 0, 0, 0, 0, 0, 128}},
	} {
		b := PutInt([]byte{9}, r.v)
		if !bytes.Equal(b, append([]byte{9}, r.want...)) {
			t.Errorf("PutInt of %d: %v", r.v, b)
		}
		if v, e := GetInt(b, 1); v != r.v || e != api.OK {
			t.Errorf("GetInt of %d: %d, %d", r.v, v, e)
		}
	}
}

func TestGetIntRefuses(t *testing.T) {
	b := PutInt(nil, -1)
	for _, r := range []struct {
		b  []byte
		at int
		e  api.Errno
	}{
		{b, -1, api.ErrArg},
		{nil, math.MinInt, api.ErrArg},
		{b, 1, api.ErrShort},
		{b, 8, api.ErrShort},
		{b, math.MaxInt, api.ErrShort},
		{b[:7], 0, api.ErrShort},
		{nil, 0, api.ErrShort},
	} {
		if v, e := GetInt(r.b, r.at); v != 0 || e != r.e {
			t.Errorf("GetInt of %d bytes at %d: %d, %d; want 0, %d", len(r.b), r.at, v, e, r.e)
		}
	}
}

func TestPutTextLaysLengthAndText(t *testing.T) {
	for _, r := range []struct {
		b    []byte
		s    string
		want []byte
	}{
		{nil, "", []byte{0, 0, 0, 0}},
		{[]byte{9}, "ab", []byte{9, 2, 0, 0, 0, 'a', 'b'}},
		{nil, "\x00\xff/", []byte{3, 0, 0, 0, 0, 255, '/'}},
		{nil, "\u00e9", []byte{2, 0, 0, 0, 0xc3, 0xa9}},
	} {
		if got := PutText(r.b, r.s); !bytes.Equal(got, r.want) {
			t.Errorf("PutText of %q: %v; want %v", r.s, got, r.want)
		}
	}
	long := PutText(nil, strings.Repeat("x", 258))
	if !bytes.Equal(long[:5], []byte{2, 1, 0, 0, 'x'}) || len(long) != 262 {
		t.Errorf("PutText of 258 bytes: %v, %d in all", long[:5], len(long))
	}
}

func TestTextsArePutAndGot(t *testing.T) {
	texts := []string{"ab", "", "\x00\xff", strings.Repeat("long ", 20_000), "end"}
	b := []byte{9, 9, 9}
	for _, s := range texts {
		b = PutText(b, s)
	}
	at := 3
	for i, want := range texts {
		s, next, e := GetText(b, at)
		if s != want || next != at+4+len(want) || e != api.OK {
			t.Fatalf("text %d: %d bytes, %d, %d", i, len(s), next, e)
		}
		at = next
	}
	if at != len(b) {
		t.Errorf("%d bytes are left", len(b)-at)
	}
}

func TestGetTextRefuses(t *testing.T) {
	b := PutText(nil, "abc")
	for _, r := range []struct {
		name string
		b    []byte
		at   int
		e    api.Errno
	}{
		{"at is below 0", b, -1, api.ErrArg},
		{"at is least, of nothing", nil, math.MinInt, api.ErrArg},
		{"nothing", nil, 0, api.ErrShort},
		{"at the end", b, 7, api.ErrShort},
		{"behind the end", b, 8, api.ErrShort},
		{"far behind the end", b, math.MaxInt, api.ErrShort},
		{"one more than is there", []byte{2, 0, 0, 0, 'a'}, 0, api.ErrShort},
		{"the highest bit of the length", []byte{0, 0, 0, 128, 'a'}, 0, api.ErrShort},
		{"the greatest length", []byte{255, 255, 255, 255, 'a'}, 0, api.ErrShort},
	} {
		if s, next, e := GetText(r.b, r.at); s != "" || next != 0 || e != r.e {
			t.Errorf("%s: %q, %d, %d; want nothing, %d", r.name, s, next, e, r.e)
		}
	}
	for n := range len(b) {
		if s, next, e := GetText(b[:n], 0); s != "" || next != 0 || e != api.ErrShort {
			t.Errorf("the first %d bytes: %q, %d, %d", n, s, next, e)
		}
	}
}

// TestPutsShareNoMemory: a list with room behind its end must not be written into, and what is answered must be new memory, even if nothing is put.
func TestPutsShareNoMemory(t *testing.T) {
	for name, put := range map[string]func([]byte) []byte{
		"Put":              func(b []byte) []byte { return Put(b, mixed, 8) },
		"Put of no bytes":  func(b []byte) []byte { return Put(b, mixed, 0) },
		"PutInt":           func(b []byte) []byte { return PutInt(b, -5) },
		"PutText":          func(b []byte) []byte { return PutText(b, "text") },
		"PutText of empty": func(b []byte) []byte { return PutText(b, "") },
	} {
		room := bytes.Repeat([]byte{170}, 64)
		out := put(room[:3])
		again := put(room[:3])
		for i := range out {
			out[i] ^= 255
		}
		if !bytes.Equal(room, bytes.Repeat([]byte{170}, 64)) {
			t.Errorf("%s turned what was handed in: %v", name, room)
		}
		if !bytes.Equal(again, put(room[:3])) {
			t.Errorf("%s: two answers share memory: %v", name, again)
		}
	}
}

func TestGetTextKeepsNothing(t *testing.T) {
	b := PutText(nil, "abc")
	s, _, _ := GetText(b, 0)
	b[4] = 'z'
	if s != "abc" {
		t.Errorf("the text was turned with its bytes: %q", s)
	}
}
