package half

import (
	"bytes"
	"encoding/binary"
	"hash/adler32"
	"math"
	"slices"
	"testing"

	"garret/api"
	"garret/frame"
	"garret/nor"
	"garret/power"
)

// geometry has that many sectors of that many bytes; the rest of it is the smallest one.
func geometry(sectors, sector int) api.Geometry {
	return api.Geometry{Sectors: sectors, Sector: sector, Blocks: 4, Pages: 2, Page: 16}
}

// forms are chips whose halves have one sector, three of an odd size, and as many bytes as there may be.
func forms() []api.Geometry {
	return []api.Geometry{geometry(2, 256), geometry(4, 256), geometry(6, 259), geometry(16, 4096)}
}

// made answers an erased chip, and its power.
func made(t *testing.T, g api.Geometry) (*nor.Chip, *power.Power) {
	t.Helper()
	p := power.New()
	c, e := nor.New(g, p)
	if e != api.OK {
		t.Fatalf("nor.New: %d", e)
	}
	return c, p
}

// all answers all bytes of a chip.
func all(t *testing.T, c *nor.Chip) []byte {
	t.Helper()
	b, e := c.Read(0, c.Geometry().Sectors*c.Geometry().Sector)
	if e != api.OK {
		t.Fatalf("Read of all: %d", e)
	}
	return b
}

// load gives a chip bytes that are another one from place to place, and answers them.
func load(t *testing.T, c *nor.Chip) []byte {
	t.Helper()
	b := make([]byte, c.Geometry().Sectors*c.Geometry().Sector)
	for i := range b {
		b[i] = byte(i%251) ^ byte(i/c.Geometry().Sector)
	}
	if e := c.Load(b); e != api.OK {
		t.Fatalf("Load: %d", e)
	}
	return b
}

// filled is n bytes that are v.
func filled(n int, v byte) []byte {
	return bytes.Repeat([]byte{v}, n)
}

// record lays a record that counts by the library's means.
func record(b []byte) []byte {
	n := binary.LittleEndian.AppendUint16(nil, uint16(len(b)))
	s := adler32.Checksum(slices.Concat(n, b))
	return append(append(binary.LittleEndian.AppendUint32(n, s), b...), 0)
}

// none are numbers of which there is no half.
var none = []int{-1, -2, 2, 3, 256, 1 << 40, math.MinInt, math.MaxInt}

func TestSizeIsHalfOfAllBytes(t *testing.T) {
	for _, r := range []struct {
		g    api.Geometry
		want int
	}{
		{geometry(4, 256), 512},
		{geometry(2, 256), 256},
		{geometry(2, 257), 257},
		{geometry(6, 259), 777},
		{geometry(14, 4095), 28_665},
		{api.Geometry{Sectors: 16, Sector: 4096, Blocks: 64, Pages: 32, Page: 256}, 32_768},
	} {
		if got := Size(r.g); got != r.want {
			t.Errorf("%v: %d; want %d", r.g, got, r.want)
		}
	}
}

func TestSizeOfNoChip(t *testing.T) {
	for _, g := range []api.Geometry{
		{},
		geometry(0, 256), geometry(1, 256), geometry(3, 256), geometry(-2, 256), geometry(18, 256),
		geometry(4, 0), geometry(4, 255), geometry(4, 4097), geometry(4, -256), geometry(-4, -256),
		geometry(math.MaxInt, math.MaxInt), geometry(math.MinInt, math.MinInt),
		{Sectors: 4, Sector: 256},
		{Sectors: 4, Sector: 256, Blocks: 3, Pages: 2, Page: 16},
		{Sectors: 4, Sector: 256, Blocks: 4, Pages: 1, Page: 16},
		{Sectors: 4, Sector: 256, Blocks: 4, Pages: 2, Page: 257},
	} {
		if got := Size(g); got != 0 {
			t.Errorf("%v: %d", g, got)
		}
	}
}

func TestReadIsOneHalf(t *testing.T) {
	for _, g := range forms() {
		c, p := made(t, g)
		want := load(t, c)
		for half := range 2 {
			b, e := Read(c, half)
			if e != api.OK || !bytes.Equal(b, want[half*Size(g):][:Size(g)]) {
				t.Errorf("%v, half %d: %d, %d bytes", g, half, e, len(b))
			}
		}
		if p.Steps() != 0 || !bytes.Equal(all(t, c), want) {
			t.Errorf("%v: something was done", g)
		}
	}
}

func TestReadNeedsNoPower(t *testing.T) {
	c, p := made(t, geometry(4, 256))
	want := load(t, c)
	p.Cut(0, 0)
	p.Step()
	if b, e := Read(c, 1); e != api.OK || !bytes.Equal(b, want[512:]) {
		t.Errorf("%d, %d bytes", e, len(b))
	}
}

func TestReadIsNewMemory(t *testing.T) {
	c, _ := made(t, geometry(4, 256))
	want := load(t, c)
	b, _ := Read(c, 0)
	b = b[:cap(b)]
	for i := range b {
		b[i] = 77
	}
	if !bytes.Equal(all(t, c), want) {
		t.Error("who writes into what was read writes into the chip")
	}
}

func TestWipeErasesOneHalf(t *testing.T) {
	for _, g := range forms() {
		for half := range 2 {
			c, p := made(t, g)
			want := load(t, c)
			copy(want[half*Size(g):], filled(Size(g), 255))
			if e := Wipe(c, half); e != api.OK || p.Steps() != g.Sectors/2 || !bytes.Equal(all(t, c), want) {
				t.Errorf("%v, half %d: %d, %d steps", g, half, e, p.Steps())
			}
			for sector := range g.Sectors {
				times := 0
				if sector/(g.Sectors/2) == half {
					times = 1
				}
				if n := c.Erases(sector); n != times {
					t.Errorf("%v, half %d: sector %d was erased %d times", g, half, sector, n)
				}
			}
		}
	}
}

func TestWipeGoesDownToTheFirstSector(t *testing.T) {
	g := geometry(8, 256)
	for half := range 2 {
		for left := range 4 {
			for _, mask := range []byte{0, 0x0f, 0xa5, 0xff} {
				c, p := made(t, g)
				want := load(t, c)
				torn := half*4 + 3 - left
				for i := (torn + 1) * 256; i < (half+1)*1024; i++ {
					want[i] = 255
				}
				for i := torn * 256; i < (torn+1)*256; i++ {
					want[i] |= mask
				}
				p.Cut(left, mask)
				if e := Wipe(c, half); e != api.ErrTorn || p.Steps() != left || !bytes.Equal(all(t, c), want) {
					t.Errorf("half %d, torn at %d with %#x: %d, %d steps", half, left, mask, e, p.Steps())
				}
				if e := Wipe(c, half); e != api.ErrTorn || !bytes.Equal(all(t, c), want) {
					t.Errorf("half %d, with power off: %d", half, e)
				}
				p.On()
				copy(want[half*1024:], filled(1024, 255))
				if e := Wipe(c, half); e != api.OK || !bytes.Equal(all(t, c), want) {
					t.Errorf("half %d, with power back: %d", half, e)
				}
			}
		}
	}
}

func TestAppendIsARecordAtThatPlace(t *testing.T) {
	for _, g := range forms() {
		size := Size(g)
		for half := range 2 {
			for _, r := range []struct {
				at int
				b  []byte
			}{
				{0, nil},
				{0, []byte{}},
				{0, []byte("abc")},
				{1, []byte{0, 255, 7}},
				{200, filled(40, 9)},
				{size - 7, nil},
				{size - 8, []byte{255}},
				{size - 100, filled(93, 1)},
				{0, filled(size-7, 0x5a)},
			} {
				c, p := made(t, g)
				want := all(t, c)
				copy(want[half*size+r.at:], record(r.b))
				e := Append(c, half, r.at, r.b)
				if e != api.OK || p.Steps() != len(r.b)+7 || !bytes.Equal(all(t, c), want) {
					t.Errorf("%v, half %d, %d bytes at %d: %d, %d steps", g, half, len(r.b), r.at, e, p.Steps())
				}
			}
		}
	}
}

func TestAppendedOneBehindTheOther(t *testing.T) {
	c, _ := made(t, geometry(6, 259))
	texts := [2][]string{{"abc", "", "x"}, {"one", "two", "three", ""}}
	for half, l := range texts {
		at := 0
		for _, s := range l {
			if e := Append(c, half, at, []byte(s)); e != api.OK {
				t.Errorf("half %d, %q at %d: %d", half, s, at, e)
			}
			at += frame.Size(len(s))
		}
	}
	for half, l := range texts {
		b, _ := Read(c, half)
		got, n, clean := frame.Scan(b)
		want := 0
		for i, s := range l {
			want += len(s) + 7
			if len(got) != len(l) || string(got[i]) != s {
				t.Fatalf("half %d: %q; want %q", half, got, l)
			}
		}
		if n != want || !clean {
			t.Errorf("half %d: %d bytes, %v", half, n, clean)
		}
	}
}

func TestAppendThatWouldNotEndWithin(t *testing.T) {
	for _, g := range forms() {
		size := Size(g)
		for half := range 2 {
			c, p := made(t, g)
			for _, r := range []struct{ at, n int }{
				{0, size - 6}, {1, size - 7}, {size - 7, 1}, {size - 8, 2}, {size - 6, 0}, {size - 1, 0}, {size, 0}, {size + 1, 0},
				{0, size}, {0, 65_000}, {size, 65_000}, {2 * size, 0}, {1 << 40, 3}, {1 << 62, 0}, {math.MaxInt, 0}, {math.MaxInt - 6, 9}, {math.MaxInt, 65_000},
			} {
				if e := Append(c, half, r.at, make([]byte, r.n)); e != api.ErrSpace {
					t.Errorf("%v, half %d, %d bytes at %d: %d", g, half, r.n, r.at, e)
				}
			}
			if p.Steps() != 0 || !bytes.Equal(all(t, c), filled(2*size, 255)) {
				t.Errorf("%v, half %d: something was done: %d steps", g, half, p.Steps())
			}
		}
	}
}

func TestAppendOfTooMuch(t *testing.T) {
	c, p := made(t, geometry(16, 4096))
	for _, at := range []int{0, 32_768, math.MaxInt} {
		if e := Append(c, 0, at, make([]byte, 65_001)); e != api.ErrBig {
			t.Errorf("at %d: %d", at, e)
		}
	}
	if p.Steps() != 0 {
		t.Errorf("%d steps", p.Steps())
	}
}

func TestAppendUponWhatIsThere(t *testing.T) {
	c, p := made(t, geometry(4, 256))
	Append(c, 1, 20, []byte("abc"))
	want, steps := all(t, c), p.Steps()
	for _, r := range []struct {
		at int
		s  string
	}{{20, "zzz"}, {20, ""}, {12, "abc"}, {19, "abc"}, {26, "abc"}, {0, "twenty or more bytes"}} {
		if e := Append(c, 1, r.at, []byte(r.s)); e != api.ErrBits {
			t.Errorf("%q at %d: %d", r.s, r.at, e)
		}
	}
	if p.Steps() != steps || !bytes.Equal(all(t, c), want) {
		t.Errorf("something was done: %d steps", p.Steps()-steps)
	}
	// The same once more sets no bit.
	if e := Append(c, 1, 20, []byte("abc")); e != api.OK || !bytes.Equal(all(t, c), want) {
		t.Errorf("the same once more: %d", e)
	}
}

func TestFlagIsCleared(t *testing.T) {
	c, _ := made(t, geometry(4, 256))
	c.Program(9, []byte{0x3c})
	if e := Append(c, 0, 0, []byte("abc")); e != api.OK {
		t.Errorf("%d", e)
	}
	if b, _ := Read(c, 0); !bytes.Equal(b[:11], append(record([]byte("abc")), 255)) {
		t.Errorf("%v", b[:11])
	}
}

func TestAppendTornAtEachStep(t *testing.T) {
	rec := record([]byte("hello"))
	for half := range 2 {
		for left := range rec {
			for _, mask := range []byte{0, 1, 0x0f, 0xa5, 0xff} {
				c, p := made(t, geometry(6, 259))
				want := all(t, c)
				at := half*777 + 30
				copy(want[at:], rec[:left])
				want[at+left] = rec[left] | mask
				p.Cut(left, mask)
				e := Append(c, half, 30, []byte("hello"))
				if e != api.ErrTorn || !p.Off() || p.Steps() != left || !bytes.Equal(all(t, c), want) {
					t.Fatalf("half %d, torn at %d with %#x: %d, %d steps", half, left, mask, e, p.Steps())
				}
				b, _ := Read(c, half)
				l, _, _ := frame.Scan(b[30:])
				// Of a torn flag with no bits left all is there.
				if whole := left == len(rec)-1 && mask == 0; (len(l) == 1) != whole {
					t.Fatalf("half %d, torn at %d with %#x: %d records", half, left, mask, len(l))
				}
				p.On()
				if e := Append(c, half, 30, []byte("hello")); e != api.OK {
					t.Fatalf("half %d, torn at %d with %#x: once more: %d", half, left, mask, e)
				}
			}
		}
	}
}

func TestAppendKeepsNothing(t *testing.T) {
	c, _ := made(t, geometry(4, 256))
	room := []byte("abcdefghijklmnop")
	b := room[:3]
	Append(c, 0, 0, b)
	if string(room) != "abcdefghijklmnop" {
		t.Errorf("what was handed in is %q", room)
	}
	b[0] = 'z'
	if got, _ := Read(c, 0); !bytes.Equal(got[:10], record([]byte("abc"))) {
		t.Errorf("on the chip is %v", got[:10])
	}
}

func TestNoHalf(t *testing.T) {
	c, p := made(t, geometry(4, 256))
	want := load(t, c)
	for _, half := range none {
		if b, e := Read(c, half); e != api.ErrArg || len(b) != 0 {
			t.Errorf("Read of %d: %d, %d bytes", half, e, len(b))
		}
		if e := Wipe(c, half); e != api.ErrArg {
			t.Errorf("Wipe of %d: %d", half, e)
		}
		if e := Append(c, half, 0, nil); e != api.ErrArg {
			t.Errorf("Append to %d: %d", half, e)
		}
	}
	if p.Steps() != 0 || !bytes.Equal(all(t, c), want) {
		t.Errorf("something was done: %d steps", p.Steps())
	}
}

func TestAppendBelowTheBeginning(t *testing.T) {
	for _, at := range []int{-1, -7, -512, math.MinInt} {
		for half := range 2 {
			c, p := made(t, geometry(4, 256))
			if e := Append(c, half, at, []byte("abc")); e != api.ErrArg || p.Steps() != 0 {
				t.Errorf("half %d, at %d: %d, %d steps", half, at, e, p.Steps())
			}
		}
	}
}

func TestTheFirstErrorCounts(t *testing.T) {
	c, p := made(t, geometry(4, 256))
	c.Load(make([]byte, 1024))
	p.Cut(0, 0)
	p.Step()
	much := make([]byte, 65_001)
	for _, r := range []struct {
		name    string
		e, want api.Errno
	}{
		{"no chip", Append(nil, 2, -1, much), api.ErrNil},
		{"no half", Append(c, 2, 0, much), api.ErrArg},
		{"below the beginning", Append(c, 0, -1, much), api.ErrArg},
		{"too much", Append(c, 0, 512, much), api.ErrBig},
		{"no room", Append(c, 0, 512, nil), api.ErrSpace},
		{"bits", Append(c, 0, 0, nil), api.ErrBits},
		{"no half to wipe", Wipe(c, 2), api.ErrArg},
		{"no power", Wipe(c, 0), api.ErrTorn},
	} {
		if r.e != r.want {
			t.Errorf("%s: %d; want %d", r.name, r.e, r.want)
		}
	}
}

func TestNoChip(t *testing.T) {
	for _, half := range append([]int{0, 1}, none...) {
		if b, e := Read(nil, half); e != api.ErrNil || len(b) != 0 {
			t.Errorf("Read of %d: %d, %d bytes", half, e, len(b))
		}
		if e := Wipe(nil, half); e != api.ErrNil {
			t.Errorf("Wipe of %d: %d", half, e)
		}
		if e := Append(nil, half, 0, nil); e != api.ErrNil {
			t.Errorf("Append to %d: %d", half, e)
		}
	}
}

func TestChipOfNoSectors(t *testing.T) {
	c := &nor.Chip{}
	for half := range 2 {
		if b, e := Read(c, half); e != api.OK || len(b) != 0 {
			t.Errorf("Read of %d: %d, %d bytes", half, e, len(b))
		}
		if e := Wipe(c, half); e != api.OK {
			t.Errorf("Wipe of %d: %d", half, e)
		}
		if e := Append(c, half, 0, nil); e != api.ErrSpace {
			t.Errorf("Append to %d: %d", half, e)
		}
	}
}
