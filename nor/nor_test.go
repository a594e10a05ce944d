package nor

import (
	"bytes"
	"math"
	"testing"

	"garret/api"
	"garret/power"
)

// least and most are the smallest and the greatest chips.
var (
	least = api.Geometry{Sectors: 2, Sector: 256, Blocks: 4, Pages: 2, Page: 16}
	most  = api.Geometry{Sectors: 16, Sector: 4096, Blocks: 64, Pages: 32, Page: 256}
)

// made answers an erased chip of four sectors of 256 bytes, and its power.
func made(t *testing.T) (*Chip, *power.Power) {
	t.Helper()
	p := power.New()
	g := least
	g.Sectors = 4
	c, e := New(g, p)
	if e != api.OK || c == nil {
		t.Fatalf("New: %v, %d", c, e)
	}
	return c, p
}

// all answers all bytes of a chip.
func all(t *testing.T, c *Chip) []byte {
	t.Helper()
	b, e := c.Read(0, c.Geometry().Sectors*c.Geometry().Sector)
	if e != api.OK {
		t.Fatalf("Read of all: %d", e)
	}
	return b
}

// load fills each sector of a chip with its number plus 1, and answers all bytes.
func load(t *testing.T, c *Chip) []byte {
	t.Helper()
	var b []byte
	for i := range c.Geometry().Sectors {
		b = append(b, bytes.Repeat([]byte{byte(i + 1)}, c.Geometry().Sector)...)
	}
	if e := c.Load(b); e != api.OK {
		t.Fatalf("Load: %d", e)
	}
	return b
}

func TestRightAtTheEdges(t *testing.T) {
	for _, r := range []struct {
		name        string
		turn        func(g *api.Geometry, n int)
		right, none []int
	}{
		{"Sectors", func(g *api.Geometry, n int) { g.Sectors = n },
			[]int{2, 4, 6, 8, 10, 12, 14, 16}, []int{-4, -2, -1, 0, 1, 3, 5, 7, 9, 11, 13, 15, 17, 18, 32}},
		{"Sector", func(g *api.Geometry, n int) { g.Sector = n },
			[]int{256, 257, 1000, 4095, 4096}, []int{-256, -1, 0, 1, 255, 4097, 8192}},
		{"Blocks", func(g *api.Geometry, n int) { g.Blocks = n },
			[]int{4, 5, 7, 63, 64}, []int{-4, -1, 0, 1, 2, 3, 65, 128}},
		{"Pages", func(g *api.Geometry, n int) { g.Pages = n },
			[]int{2, 3, 31, 32}, []int{-2, -1, 0, 1, 33, 64}},
		{"Page", func(g *api.Geometry, n int) { g.Page = n },
			[]int{16, 17, 100, 255, 256}, []int{-16, -1, 0, 1, 15, 257, 512}},
	} {
		for _, base := range []api.Geometry{least, most} {
			for _, n := range r.right {
				g := base
				r.turn(&g, n)
				c, e := New(g, nil)
				if !Right(g) || c == nil || e != api.OK {
					t.Errorf("%s %d: right %v, New %v, %d", r.name, n, Right(g), c != nil, e)
				}
			}
			for _, n := range append(r.none, math.MinInt, math.MaxInt, math.MaxInt-1) {
				g := base
				r.turn(&g, n)
				c, e := New(g, nil)
				if Right(g) || c != nil || e != api.ErrArg {
					t.Errorf("%s %d: right %v, New %v, %d", r.name, n, Right(g), c != nil, e)
				}
			}
		}
	}
	if c, e := New(api.Geometry{}, power.New()); Right(api.Geometry{}) || c != nil || e != api.ErrArg {
		t.Errorf("no geometry: %v, %d", c != nil, e)
	}
}

func TestNewIsErased(t *testing.T) {
	odd := api.Geometry{Sectors: 6, Sector: 259, Blocks: 5, Pages: 3, Page: 17}
	for _, g := range []api.Geometry{least, odd, most} {
		p := power.New()
		c, e := New(g, p)
		if e != api.OK || c.Geometry() != g || c.Power() != p || p.Steps() != 0 {
			t.Errorf("%v: %d, %v, its power %v, steps %d", g, e, c.Geometry(), c.Power() == p, p.Steps())
			continue
		}
		if !bytes.Equal(all(t, c), bytes.Repeat([]byte{255}, g.Sectors*g.Sector)) {
			t.Errorf("%v: not all bytes are 255", g)
		}
		if _, e := c.Read(0, g.Sectors*g.Sector+1); e != api.ErrArg {
			t.Errorf("%v: a byte more than there are: %d", g, e)
		}
		for sector := range g.Sectors {
			if n := c.Erases(sector); n != 0 {
				t.Errorf("%v: sector %d was erased %d times", g, sector, n)
			}
		}
	}
}

func TestReadWhatIsThere(t *testing.T) {
	c, p := made(t)
	b := load(t, c)
	for _, r := range []struct{ at, n int }{
		{0, 0}, {0, 1}, {0, 1024}, {1, 1023}, {255, 2}, {256, 256}, {511, 258}, {1023, 1}, {1023, 0}, {1024, 0},
	} {
		got, e := c.Read(r.at, r.n)
		if e != api.OK || !bytes.Equal(got, b[r.at:r.at+r.n]) {
			t.Errorf("Read(%d, %d): %d, %d bytes", r.at, r.n, e, len(got))
		}
	}
	if p.Steps() != 0 {
		t.Errorf("%d steps", p.Steps())
	}
}

// outside are places, and how many bytes from there on, that a chip of 1024 bytes has not.
var outside = []struct{ at, n int }{
	{-1, 0}, {-1, 1}, {-1, 2}, {-1024, 1024}, {0, 1025}, {1, 1024}, {1023, 2}, {1024, 1}, {1025, 0}, {1025, 1},
	{math.MaxInt, 0}, {math.MaxInt, 1}, {math.MinInt, 0}, {math.MinInt, 1}, {math.MaxInt - 1, 2}, {1 << 62, 1},
}

func TestReadOutside(t *testing.T) {
	c, _ := made(t)
	for _, r := range append(outside, []struct{ at, n int }{
		{0, -1}, {5, -1}, {1024, -1}, {-1, -1}, {0, math.MinInt}, {0, math.MaxInt}, {1, math.MaxInt}, {1024, math.MaxInt},
		{math.MaxInt, math.MaxInt}, {math.MinInt, math.MinInt}, {math.MinInt, math.MaxInt}, {math.MaxInt, math.MinInt}, {1 << 62, 1 << 62},
	}...) {
		if b, e := c.Read(r.at, r.n); e != api.ErrArg || len(b) != 0 {
			t.Errorf("Read(%d, %d): %d, %d bytes", r.at, r.n, e, len(b))
		}
	}
}

func TestReadIsNewMemory(t *testing.T) {
	c, _ := made(t)
	want := load(t, c)
	b, _ := c.Read(0, 8)
	b = b[:cap(b)]
	for i := range b {
		b[i] = 77
	}
	none, _ := c.Read(4, 0)
	_ = append(none, 77)
	if !bytes.Equal(all(t, c), want) {
		t.Error("who writes into what was read writes into the chip")
	}
}

func TestReadWithoutPower(t *testing.T) {
	c, p := made(t)
	want := load(t, c)
	p.Cut(0, 255)
	p.Step()
	if !bytes.Equal(all(t, c), want) {
		t.Error("other bytes while power is off")
	}
}

func TestProgramExample(t *testing.T) {
	c, _ := made(t)
	if e := c.Program(0, []byte{1}); e != api.OK {
		t.Errorf("Program(0, 1): %d", e)
	}
	if e := c.Program(0, []byte{2}); e != api.ErrBits {
		t.Errorf("Program(0, 2): %d", e)
	}
}

func TestProgramIsThereAlone(t *testing.T) {
	for _, r := range []struct {
		at int
		b  []byte
	}{
		{0, []byte{0}},
		{0, []byte{1, 2, 3}},
		{255, []byte{0x80, 0x7f}},
		{500, bytes.Repeat([]byte{0x55}, 300)},
		{1022, []byte{9, 8}},
		{1023, []byte{254}},
		{0, bytes.Repeat([]byte{0}, 1024)},
		{7, []byte{255, 255}},
		{0, nil},
		{1024, []byte{}},
	} {
		c, p := made(t)
		want := all(t, c)
		copy(want[r.at:], r.b)
		if e := c.Program(r.at, r.b); e != api.OK || p.Steps() != len(r.b) {
			t.Errorf("Program of %d at %d: %d, %d steps", len(r.b), r.at, e, p.Steps())
		}
		if !bytes.Equal(all(t, c), want) {
			t.Errorf("Program of %d at %d: not what was asked for", len(r.b), r.at)
		}
	}
}

func TestProgramOfEachByteUponEachOne(t *testing.T) {
	c, p := made(t)
	image := all(t, c)
	for there := range 256 {
		for wanted := range 256 {
			image[3] = byte(there)
			c.Load(image)
			n := p.Steps()
			e := c.Program(3, []byte{byte(wanted)})
			got, _ := c.Read(3, 1)
			if wanted|there == there {
				if e != api.OK || got[0] != byte(wanted) || p.Steps() != n+1 {
					t.Fatalf("%d upon %d: %d, %d", wanted, there, e, got[0])
				}
			} else if e != api.ErrBits || got[0] != byte(there) || p.Steps() != n {
				t.Fatalf("%d upon %d: %d, %d", wanted, there, e, got[0])
			}
		}
	}
}

func TestProgramOfBitsTurnsNothing(t *testing.T) {
	for _, r := range []struct {
		name string
		b    []byte
	}{
		{"the first", []byte{0x31, 0x03, 0x00}},
		{"the second", []byte{0x00, 0x07, 0x00}},
		{"the last", []byte{0x00, 0x00, 0x80}},
		{"all", []byte{255, 255, 255}},
	} {
		c, p := made(t)
		c.Program(10, []byte{0x30, 0x03, 0x7f})
		want, n := all(t, c), p.Steps()
		if e := c.Program(10, r.b); e != api.ErrBits || p.Steps() != n || !bytes.Equal(all(t, c), want) {
			t.Errorf("%s: %d, %d steps", r.name, e, p.Steps()-n)
		}
	}
}

func TestProgramOutside(t *testing.T) {
	c, p := made(t)
	want := load(t, c)
	for _, r := range outside {
		// Bits that would have to be set come behind a place that is none.
		for _, value := range []byte{0, 255} {
			if e := c.Program(r.at, bytes.Repeat([]byte{value}, r.n)); e != api.ErrArg {
				t.Errorf("Program of %d at %d: %d", r.n, r.at, e)
			}
		}
	}
	if p.Steps() != 0 || !bytes.Equal(all(t, c), want) {
		t.Errorf("something was done: %d steps", p.Steps())
	}
}

func TestProgramKeepsNothing(t *testing.T) {
	c, _ := made(t)
	room := []byte{1, 2, 3, 4}
	b := room[:2]
	c.Program(0, b)
	if !bytes.Equal(room, []byte{1, 2, 3, 4}) {
		t.Errorf("what was handed in is %v", room)
	}
	b[0] = 0
	if got, _ := c.Read(0, 3); !bytes.Equal(got, []byte{1, 2, 255}) {
		t.Errorf("on the chip is %v", got)
	}
}

func TestProgramTornAtEachByte(t *testing.T) {
	there := []byte{0xff, 0xfe, 0xf3, 0x9c}
	wanted := []byte{0x10, 0x20, 0x41, 0x84}
	for left := range len(wanted) {
		for mask := range 256 {
			c, p := made(t)
			c.Program(100, there)
			want := all(t, c)
			copy(want[100:], wanted[:left])
			want[100+left] = wanted[left] | there[left]&byte(mask)
			p.Cut(left, byte(mask))
			e := c.Program(100, wanted)
			if e != api.ErrTorn || !p.Off() || p.Steps() != len(there)+left || !bytes.Equal(all(t, c), want) {
				t.Fatalf("torn at %d with %#x: %d, % x", left, mask, e, all(t, c)[100:104])
			}
			if c.Program(100, make([]byte, 4)) != api.ErrTorn || !bytes.Equal(all(t, c), want) {
				t.Fatalf("torn at %d with %#x: something is done without power", left, mask)
			}
		}
	}
}

func TestProgramGoesOnBehindOn(t *testing.T) {
	c, p := made(t)
	p.Cut(1, 0x0f)
	c.Program(0, []byte{0x11, 0x22, 0x33})
	p.On()
	if e := c.Program(0, []byte{0x11, 0x22, 0x33}); e != api.OK {
		t.Errorf("the same once more: %d", e)
	}
	if got, _ := c.Read(0, 4); !bytes.Equal(got, []byte{0x11, 0x22, 0x33, 0xff}) {
		t.Errorf("% x", got)
	}
}

func TestRefusedAheadOfPower(t *testing.T) {
	c, p := made(t)
	c.Program(0, []byte{0})
	p.Cut(0, 255)
	p.Step()
	for _, r := range []struct {
		name    string
		e, want api.Errno
	}{
		{"Program with power off", c.Program(0, []byte{0}), api.ErrTorn},
		{"Program of nothing", c.Program(0, nil), api.OK},
		{"Program outside", c.Program(1024, []byte{0}), api.ErrArg},
		{"Program of bits", c.Program(0, []byte{1}), api.ErrBits},
		{"Erase with power off", c.Erase(0), api.ErrTorn},
		{"Erase outside", c.Erase(4), api.ErrArg},
	} {
		if r.e != r.want {
			t.Errorf("%s: %d; want %d", r.name, r.e, r.want)
		}
	}
	if got, _ := c.Read(0, 2); !bytes.Equal(got, []byte{0, 255}) || c.Erases(0) != 0 {
		t.Errorf("something is done without power: %v, %d erases", got, c.Erases(0))
	}
	// None of what was refused for another reason took the step that is torn.
	p.On()
	p.Cut(0, 0)
	c.Program(0, nil)
	c.Program(0, []byte{1})
	c.Program(1024, []byte{0})
	c.Erase(-1)
	if p.Off() {
		t.Error("what was refused took a step")
	}
}

func TestEraseOneSector(t *testing.T) {
	for sector := range 4 {
		c, p := made(t)
		want := load(t, c)
		copy(want[256*sector:], bytes.Repeat([]byte{255}, 256))
		for times := 1; times <= 3; times++ {
			if e := c.Erase(sector); e != api.OK || p.Steps() != times || !bytes.Equal(all(t, c), want) {
				t.Errorf("sector %d: %d, %d steps", sector, e, p.Steps())
			}
			for other := range 4 {
				n := c.Erases(other)
				if other == sector && n != times || other != sector && n != 0 {
					t.Errorf("sector %d, %d times: Erases(%d) is %d", sector, times, other, n)
				}
			}
		}
		if e := c.Program(256*sector, []byte{0xa5}); e != api.OK {
			t.Errorf("sector %d: Program behind Erase: %d", sector, e)
		}
	}
}

func TestEraseOfSectorsOfAnOddSize(t *testing.T) {
	g := least
	g.Sectors, g.Sector = 6, 259
	for sector := range g.Sectors {
		c, _ := New(g, nil)
		want := load(t, c)
		copy(want[259*sector:], bytes.Repeat([]byte{255}, 259))
		if e := c.Erase(sector); e != api.OK || !bytes.Equal(all(t, c), want) {
			t.Errorf("sector %d: %d", sector, e)
		}
	}
}

func TestSectorsThatAreNone(t *testing.T) {
	c, p := made(t)
	want := load(t, c)
	for _, sector := range []int{-1, -4, 4, 5, 16, math.MinInt, math.MaxInt} {
		if e := c.Erase(sector); e != api.ErrArg || c.Erases(sector) != 0 {
			t.Errorf("%d: %d, %d erases", sector, e, c.Erases(sector))
		}
	}
	if p.Steps() != 0 || !bytes.Equal(all(t, c), want) {
		t.Errorf("something was done: %d steps", p.Steps())
	}
}

func TestEraseTorn(t *testing.T) {
	for _, mask := range []byte{0, 1, 0x0f, 0x81, 0xaa, 0xfe, 0xff} {
		c, p := made(t)
		want := load(t, c)
		c.Erase(3)
		copy(want[768:], bytes.Repeat([]byte{255}, 256))
		for i := 256; i < 512; i++ {
			want[i] |= mask
		}
		p.Cut(0, mask)
		if e := c.Erase(1); e != api.ErrTorn || !p.Off() || p.Steps() != 1 || !bytes.Equal(all(t, c), want) {
			t.Errorf("mask %#x: %d, %d steps", mask, e, p.Steps())
		}
		if e := c.Erase(2); e != api.ErrTorn || !bytes.Equal(all(t, c), want) {
			t.Errorf("mask %#x, with power off: %d", mask, e)
		}
		if c.Erases(1) != 0 || c.Erases(2) != 0 || c.Erases(3) != 1 {
			t.Errorf("mask %#x: erases %d, %d, %d", mask, c.Erases(1), c.Erases(2), c.Erases(3))
		}
		p.On()
		if e := c.Erase(1); e != api.OK || c.Erases(1) != 1 {
			t.Errorf("mask %#x, with power back: %d, %d", mask, e, c.Erases(1))
		}
	}
}

func TestStepsThatFailAreDone(t *testing.T) {
	// The chapter knows no failing of this chip: that is for the other one.
	c, p := made(t)
	p.Fail([]int{0, 1, 2})
	if e := c.Program(0, []byte{1, 2}); e != api.OK {
		t.Errorf("Program: %d", e)
	}
	if got, _ := c.Read(0, 2); !bytes.Equal(got, []byte{1, 2}) {
		t.Errorf("Program: %v", got)
	}
	if e := c.Erase(0); e != api.OK || c.Erases(0) != 1 {
		t.Errorf("Erase: %d, %d", e, c.Erases(0))
	}
}

func TestLoad(t *testing.T) {
	c, p := made(t)
	c.Erase(2)
	c.Program(0, make([]byte, 1024))
	steps := p.Steps()
	p.Cut(0, 255)
	p.Step()
	// Bits are set without power, too, as there is no step.
	room := bytes.Repeat([]byte{0x5a}, 2048)
	b := room[:1024]
	if e := c.Load(b); e != api.OK || p.Steps() != steps || c.Erases(2) != 1 || c.Erases(0) != 0 {
		t.Errorf("%d, %d steps, erases %d, %d", e, p.Steps()-steps, c.Erases(2), c.Erases(0))
	}
	if !bytes.Equal(room, bytes.Repeat([]byte{0x5a}, 2048)) {
		t.Error("what was handed in is another one")
	}
	b[0] = 0
	if !bytes.Equal(all(t, c), room[1024:]) {
		t.Error("the chip's bytes are others")
	}
}

func TestLoadOfTooFewOrTooMany(t *testing.T) {
	c, _ := made(t)
	want := load(t, c)
	for _, n := range []int{0, 1, 256, 1023, 1025, 2048} {
		if e := c.Load(make([]byte, n)); e != api.ErrArg || !bytes.Equal(all(t, c), want) {
			t.Errorf("%d bytes: %d", n, e)
		}
	}
	if e := c.Load(nil); e != api.ErrArg {
		t.Errorf("nil: %d", e)
	}
}

func TestChipsAreApart(t *testing.T) {
	p := power.New()
	c, _ := New(least, p)
	d, _ := New(least, p)
	c.Program(0, []byte{0})
	c.Erase(1)
	if !bytes.Equal(all(t, d), bytes.Repeat([]byte{255}, 512)) || d.Erases(1) != 0 {
		t.Error("the other chip is turned")
	}
	// The steps of a power are those of all its chips.
	p.Cut(1, 0)
	if c.Program(0, []byte{0}) != api.OK || d.Program(0, []byte{0}) != api.ErrTorn || c.Erase(0) != api.ErrTorn {
		t.Error("chips of one power")
	}
}

func TestChipOfNoPower(t *testing.T) {
	c, e := New(least, nil)
	if e != api.OK || c.Power() != nil {
		t.Fatalf("New: %d", e)
	}
	if e := c.Program(0, []byte{1, 2}); e != api.OK {
		t.Errorf("Program: %d", e)
	}
	if e := c.Erase(0); e != api.OK || c.Erases(0) != 1 {
		t.Errorf("Erase: %d, %d", e, c.Erases(0))
	}
}

func TestNilChip(t *testing.T) {
	var c *Chip
	for _, r := range []struct{ at, n int }{{0, 0}, {0, 1}, {-1, -1}} {
		if b, e := c.Read(r.at, r.n); e != api.ErrNil || len(b) != 0 {
			t.Errorf("Read(%d, %d): %d, %v", r.at, r.n, e, b)
		}
	}
	if c.Program(0, nil) != api.ErrNil || c.Program(-1, []byte{1}) != api.ErrNil {
		t.Error("Program")
	}
	if c.Erase(0) != api.ErrNil || c.Erase(-1) != api.ErrNil {
		t.Error("Erase")
	}
	if c.Load(nil) != api.ErrNil || c.Load([]byte{1}) != api.ErrNil {
		t.Error("Load")
	}
	if c.Erases(0) != 0 || c.Geometry() != (api.Geometry{}) || c.Power() != nil {
		t.Error("what is asked is not zero")
	}
}

func TestZeroChipHasNoSectors(t *testing.T) {
	c := &Chip{}
	if b, e := c.Read(0, 1); e != api.ErrArg || len(b) != 0 {
		t.Errorf("Read: %d, %v", e, b)
	}
	if c.Program(0, []byte{0}) != api.ErrArg || c.Erase(0) != api.ErrArg || c.Erases(0) != 0 || c.Load([]byte{1}) != api.ErrArg {
		t.Error("a chip of nothing does something")
	}
}
