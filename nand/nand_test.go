package nand

import (
	"bytes"
	"math"
	"slices"
	"testing"

	"garret/api"
	"garret/nor"
	"garret/power"
)

// small is a geometry whose numbers all differ, with a page that is longer than the spare.
var small = api.Geometry{Sectors: 2, Sector: 256, Blocks: 5, Pages: 3, Page: 20}

// made answers an erased chip of small, and its power.
func made(t *testing.T) (*Chip, *power.Power) {
	t.Helper()
	p := power.New()
	c, e := New(small, p)
	if e != api.OK || c == nil {
		t.Fatalf("New: %v, %d", c, e)
	}
	return c, p
}

// fill answers n bytes of a value.
func fill(v byte, n int) []byte { return bytes.Repeat([]byte{v}, n) }

// rising answers n bytes from a value on, each one more than the one ahead of it.
func rising(v byte, n int) []byte {
	b := make([]byte, n)
	for i := range b {
		b[i] = v + byte(i)
	}
	return b
}

// program fills a block's next page with two values, and wants an error.
func program(t *testing.T, c *Chip, block int, data, spare byte, want api.Errno) {
	t.Helper()
	page := c.Programmed(block)
	if e := c.Program(block, page, fill(data, c.Geometry().Page), fill(spare, api.Spare)); e != want {
		t.Fatalf("Program(%d, %d): %d; want %d", block, page, e, want)
	}
}

// all answers all pages of a chip as Load takes them.
func all(t *testing.T, c *Chip) []byte {
	t.Helper()
	var b []byte
	for block := range c.Geometry().Blocks {
		for page := range c.Geometry().Pages {
			data, spare, e := c.Read(block, page)
			if e != api.OK || len(data) != c.Geometry().Page || len(spare) != api.Spare {
				t.Fatalf("Read(%d, %d): %d and %d bytes, %d", block, page, len(data), len(spare), e)
			}
			b = append(append(b, data...), spare...)
		}
	}
	return b
}

// counts answers Programmed of all blocks.
func counts(c *Chip) []int {
	var l []int
	for block := range c.Geometry().Blocks {
		l = append(l, c.Programmed(block))
	}
	return l
}

// wantPage wants a page to have two values.
func wantPage(t *testing.T, c *Chip, block, page int, data, spare byte) {
	t.Helper()
	a, b, e := c.Read(block, page)
	if e != api.OK || !bytes.Equal(a, fill(data, c.Geometry().Page)) || !bytes.Equal(b, fill(spare, api.Spare)) {
		t.Errorf("Read(%d, %d): %v, %v, %d; want all %d, all %d", block, page, a, b, e, data, spare)
	}
}

// same wants a chip to have the bytes and the counts that it had, and a power the steps.
func same(t *testing.T, what string, c *Chip, b []byte, l []int, p *power.Power, steps int) {
	t.Helper()
	if !bytes.Equal(all(t, c), b) || !slices.Equal(counts(c), l) || p.Steps() != steps {
		t.Errorf("%s: turned: %v, %d steps; want %v, %d", what, counts(c), p.Steps(), l, steps)
	}
}

func TestNew(t *testing.T) {
	least := api.Geometry{Sectors: 2, Sector: 256, Blocks: 4, Pages: 2, Page: 16}
	most := api.Geometry{Sectors: 16, Sector: 4096, Blocks: 64, Pages: 32, Page: 256}
	for _, g := range []api.Geometry{
		{}, least, most, small,
		{Sectors: 3, Sector: 256, Blocks: 4, Pages: 2, Page: 16},
		{Sectors: 2, Sector: 255, Blocks: 4, Pages: 2, Page: 16},
		{Sectors: 2, Sector: 256, Blocks: 3, Pages: 2, Page: 16},
		{Sectors: 2, Sector: 256, Blocks: 65, Pages: 2, Page: 16},
		{Sectors: 2, Sector: 256, Blocks: 4, Pages: 1, Page: 16},
		{Sectors: 2, Sector: 256, Blocks: 4, Pages: 33, Page: 16},
		{Sectors: 2, Sector: 256, Blocks: 4, Pages: 2, Page: 15},
		{Sectors: 2, Sector: 256, Blocks: 4, Pages: 2, Page: 257},
		{Sectors: 2, Sector: 256, Blocks: -4, Pages: -2, Page: 16},
		{Sectors: 2, Sector: 256, Blocks: math.MaxInt, Pages: math.MaxInt, Page: math.MaxInt},
	} {
		p := power.New()
		c, e := New(g, p)
		if !nor.Right(g) {
			if c != nil || e != api.ErrArg {
				t.Errorf("New(%v): %v, %d; want nil, ErrArg", g, c, e)
			}
			continue
		}
		if c == nil || e != api.OK || c.Geometry() != g || c.Power() != p || p.Steps() != 0 {
			t.Fatalf("New(%v): %v, %d", g, c, e)
		}
		size := g.Blocks * g.Pages * (g.Page + api.Spare)
		if !bytes.Equal(all(t, c), fill(255, size)) || slices.Max(counts(c)) != 0 {
			t.Errorf("New(%v): not erased", g)
		}
	}
}

func TestReadAnswersWhatWasProgrammed(t *testing.T) {
	c, p := made(t)
	want := fill(255, len(all(t, c)))
	size := small.Page + api.Spare
	// The blocks take turns, so that a page is told from that of another block.
	for page := range small.Pages {
		for block := range small.Blocks {
			from := (block*small.Pages + page) * size
			copy(want[from:], rising(byte(from), size))
			data, spare := rising(byte(from), small.Page), rising(byte(from+small.Page), api.Spare)
			steps := p.Steps()
			if e := c.Program(block, page, data, spare); e != api.OK || p.Steps() != steps+1 {
				t.Fatalf("Program(%d, %d): %d, %d steps", block, page, e, p.Steps()-steps)
			}
			if c.Programmed(block) != page+1 || !bytes.Equal(all(t, c), want) {
				t.Fatalf("Program(%d, %d): %d programmed", block, page, c.Programmed(block))
			}
		}
	}
	steps := p.Steps()
	if !bytes.Equal(all(t, c), want) || p.Steps() != steps {
		t.Error("Read took a step, or turned something")
	}
}

func TestReadOfNoPage(t *testing.T) {
	c, _ := made(t)
	for _, r := range [][2]int{
		{-1, 0}, {0, -1}, {-1, -1}, {small.Blocks, 0}, {0, small.Pages}, {small.Blocks - 1, small.Pages},
		{math.MinInt, 0}, {0, math.MinInt}, {math.MaxInt, 0}, {0, math.MaxInt}, {math.MaxInt, math.MaxInt},
	} {
		if data, spare, e := c.Read(r[0], r[1]); data != nil || spare != nil || e != api.ErrArg {
			t.Errorf("Read(%d, %d): %v, %v, %d; want ErrArg", r[0], r[1], data, spare, e)
		}
	}
}

func TestReadWithoutPower(t *testing.T) {
	c, p := made(t)
	program(t, c, 1, 3, 4, api.OK)
	p.Cut(0, 0)
	p.Step()
	wantPage(t, c, 1, 0, 3, 4)
	wantPage(t, c, 1, 1, 255, 255)
}

func TestProgramOfAPageOutOfOrder(t *testing.T) {
	c, p := made(t)
	// The document's example.
	if e := c.Program(0, 1, fill(1, small.Page), fill(2, api.Spare)); e != api.ErrOrder {
		t.Errorf("Program of page 1 of an erased block: %d; want ErrOrder", e)
	}
	for done := range small.Pages + 1 {
		b, l, steps := all(t, c), counts(c), p.Steps()
		for page := range small.Pages {
			if page == done {
				continue
			}
			if e := c.Program(2, page, fill(0, small.Page), fill(0, api.Spare)); e != api.ErrOrder {
				t.Errorf("Program(2, %d) behind %d: %d; want ErrOrder", page, done, e)
			}
		}
		same(t, "ErrOrder", c, b, l, p, steps)
		if done < small.Pages {
			program(t, c, 2, byte(done), byte(done), api.OK)
		}
	}
}

func TestProgramOfErasedBytesCounts(t *testing.T) {
	c, _ := made(t)
	program(t, c, 0, 255, 255, api.OK)
	if c.Programmed(0) != 1 || c.Program(0, 0, fill(1, small.Page), fill(1, api.Spare)) != api.ErrOrder {
		t.Errorf("a page of 255 does not count: %d", c.Programmed(0))
	}
	program(t, c, 0, 1, 2, api.OK)
	wantPage(t, c, 0, 0, 255, 255)
	wantPage(t, c, 0, 1, 1, 2)
}

func TestProgramOfWrongArguments(t *testing.T) {
	c, p := made(t)
	program(t, c, 1, 1, 1, api.OK)
	data, spare := fill(0, small.Page), fill(0, api.Spare)
	b, l, steps := all(t, c), counts(c), p.Steps()
	for i, r := range []struct {
		block, page int
		data, spare []byte
	}{
		{-1, 0, data, spare}, {small.Blocks, 0, data, spare}, {math.MinInt, 0, data, spare}, {math.MaxInt, 0, data, spare},
		{0, -1, data, spare}, {0, small.Pages, data, spare}, {0, math.MinInt, data, spare}, {0, math.MaxInt, data, spare},
		{0, 0, nil, spare}, {0, 0, data[1:], spare}, {0, 0, fill(0, small.Page+1), spare}, {0, 0, []byte{}, spare},
		{0, 0, data, nil}, {0, 0, data, spare[1:]}, {0, 0, data, fill(0, api.Spare+1)}, {0, 0, data, []byte{}},
		// As many bytes as both have, but not split as they are.
		{0, 0, spare, data}, {0, 0, fill(0, small.Page+api.Spare), nil}, {0, 0, data[1:], fill(0, api.Spare+1)},
		// ErrArg is named ahead of ErrOrder.
		{0, 1, nil, nil}, {1, 0, data[1:], spare}, {1, 2, data, spare[1:]},
	} {
		if e := c.Program(r.block, r.page, r.data, r.spare); e != api.ErrArg {
			t.Errorf("row %d: Program(%d, %d): %d; want ErrArg", i, r.block, r.page, e)
		}
	}
	same(t, "ErrArg", c, b, l, p, steps)
}

func TestProgramKeepsNothingHandedIn(t *testing.T) {
	c, _ := made(t)
	both := fill(7, small.Page+api.Spare)
	data, spare := both[:small.Page], both[small.Page:]
	if e := c.Program(0, 0, data, spare); e != api.OK || !bytes.Equal(both, fill(7, len(both))) {
		t.Fatalf("Program: %d, %v", e, both)
	}
	data[0], spare[0] = 1, 1
	wantPage(t, c, 0, 0, 7, 7)
}

func TestProgramLeavesWhatIsHandedIn(t *testing.T) {
	c, p := made(t)
	p.Fail([]int{0})
	// Room behind the end of data must not be written to, either.
	room := fill(0x55, small.Page+api.Spare)
	spare := fill(0x66, api.Spare)
	if e := c.Program(0, 0, room[:small.Page], spare); e != api.ErrFail {
		t.Fatalf("Program that fails: %d", e)
	}
	p.Cut(0, 0xff)
	if e := c.Program(0, 1, room[:small.Page], spare); e != api.ErrTorn {
		t.Fatalf("Program, torn: %d", e)
	}
	if !bytes.Equal(room, fill(0x55, len(room))) || !bytes.Equal(spare, fill(0x66, api.Spare)) {
		t.Errorf("handed in, and turned: %v, %v", room, spare)
	}
}

func TestReadAnswersNewMemory(t *testing.T) {
	c, _ := made(t)
	program(t, c, 0, 7, 8, api.OK)
	for page, want := range [][2]byte{{7, 8}, {255, 255}} {
		data, spare, _ := c.Read(0, page)
		// What is appended to data must not reach the spare.
		_ = append(data, 1)
		clear(data)
		clear(spare)
		wantPage(t, c, 0, page, want[0], want[1])
	}
}

func TestProgramThatFails(t *testing.T) {
	c, p := made(t)
	p.Fail([]int{1})
	program(t, c, 3, 0xff, 0x0f, api.OK)
	data, spare := rising(200, small.Page), rising(0x70, api.Spare)
	if e := c.Program(3, 1, data, spare); e != api.ErrFail {
		t.Fatalf("Program that fails: %d", e)
	}
	for i := range data {
		data[i] &= 170
	}
	for i := range spare {
		spare[i] &= 170
	}
	a, b, _ := c.Read(3, 1)
	if !bytes.Equal(a, data) || !bytes.Equal(b, spare) || c.Programmed(3) != 2 || p.Steps() != 2 {
		t.Errorf("%v, %v, %d programmed, %d steps", a, b, c.Programmed(3), p.Steps())
	}
	wantPage(t, c, 3, 0, 0xff, 0x0f)
	program(t, c, 3, 5, 6, api.OK)
	wantPage(t, c, 3, 2, 5, 6)
}

func TestProgramTornWithEachMask(t *testing.T) {
	for mask := range 256 {
		c, p := made(t)
		program(t, c, 1, 1, 2, api.OK)
		p.Cut(0, byte(mask))
		program(t, c, 1, 0x12, 0x84, api.ErrTorn)
		wantPage(t, c, 1, 0, 1, 2)
		wantPage(t, c, 1, 1, 0x12|byte(mask), 0x84|byte(mask))
		// It counts, even if the mask left it as an erased one.
		if c.Programmed(1) != 2 || p.Steps() != 1 || !p.Off() {
			t.Errorf("mask %d: %d programmed, %d steps", mask, c.Programmed(1), p.Steps())
		}
		p.On()
		program(t, c, 1, 9, 9, api.OK)
		wantPage(t, c, 1, 2, 9, 9)
	}
}

func TestTornBehindAStepThatFails(t *testing.T) {
	c, p := made(t)
	p.Fail([]int{0})
	program(t, c, 0, 0xff, 0xff, api.ErrFail)
	// The last step that was done failed; the torn ones did not.
	p.Cut(0, 1)
	program(t, c, 0, 0x10, 0x20, api.ErrTorn)
	wantPage(t, c, 0, 1, 0x11, 0x21)
	p.On()
	p.Cut(0, 2)
	if e := c.Erase(0); e != api.ErrTorn {
		t.Errorf("Erase, torn: %d", e)
	}
	wantPage(t, c, 0, 1, 0x13, 0x23)
}

func TestWithoutPowerNothingIsTurned(t *testing.T) {
	c, p := made(t)
	program(t, c, 0, 1, 2, api.OK)
	p.Cut(0, 0x81)
	p.Step()
	b, l, steps := all(t, c), counts(c), p.Steps()
	program(t, c, 0, 3, 4, api.ErrTorn)
	program(t, c, 1, 3, 4, api.ErrTorn)
	if e := c.Erase(0); e != api.ErrTorn {
		t.Errorf("Erase: %d; want ErrTorn", e)
	}
	// What is refused is refused without power, too.
	if e := c.Program(0, 0, fill(1, small.Page), fill(1, api.Spare)); e != api.ErrOrder {
		t.Errorf("Program: %d; want ErrOrder", e)
	}
	if e := c.Program(0, 1, nil, nil); e != api.ErrArg {
		t.Errorf("Program: %d; want ErrArg", e)
	}
	if e := c.Erase(-1); e != api.ErrArg {
		t.Errorf("Erase: %d; want ErrArg", e)
	}
	same(t, "off", c, b, l, p, steps)
	if c.Erases(0) != 0 {
		t.Errorf("Erases: %d", c.Erases(0))
	}
}

func TestErase(t *testing.T) {
	c, p := made(t)
	for block := range small.Blocks {
		for range block % (small.Pages + 1) {
			program(t, c, block, byte(block), 2, api.OK)
		}
	}
	size := small.Pages * (small.Page + api.Spare)
	for block := range small.Blocks {
		want, l, steps := all(t, c), counts(c), p.Steps()
		copy(want[block*size:], fill(255, size))
		l[block] = 0
		if e := c.Erase(block); e != api.OK {
			t.Fatalf("Erase(%d): %d", block, e)
		}
		same(t, "Erase", c, want, l, p, steps+1)
		for i := range small.Blocks {
			if n := c.Erases(i); (n == 1) != (i <= block) || n > 1 {
				t.Errorf("Erases(%d) behind Erase(%d): %d", i, block, n)
			}
		}
	}
	program(t, c, 3, 7, 8, api.OK)
	wantPage(t, c, 3, 0, 7, 8)
	wantPage(t, c, 3, 1, 255, 255)
	if e := c.Erase(3); e != api.OK || c.Erases(3) != 2 {
		t.Errorf("Erase: %d, %d times", e, c.Erases(3))
	}
}

func TestEraseOfNoBlock(t *testing.T) {
	c, p := made(t)
	program(t, c, 0, 1, 2, api.OK)
	b, l, steps := all(t, c), counts(c), p.Steps()
	for _, block := range []int{-1, small.Blocks, small.Blocks * small.Pages, math.MinInt, math.MaxInt} {
		if e := c.Erase(block); e != api.ErrArg || c.Erases(block) != 0 || c.Programmed(block) != 0 {
			t.Errorf("Erase(%d): %d, %d, %d", block, e, c.Erases(block), c.Programmed(block))
		}
	}
	same(t, "ErrArg", c, b, l, p, steps)
}

func TestEraseThatFails(t *testing.T) {
	c, p := made(t)
	p.Fail([]int{2, 3})
	program(t, c, 4, 1, 2, api.OK)
	program(t, c, 4, 3, 4, api.OK)
	b, l := all(t, c), counts(c)
	for i, block := range []int{4, 0} {
		if e := c.Erase(block); e != api.ErrFail || c.Erases(block) != 0 {
			t.Errorf("Erase(%d) that fails: %d, %d times", block, e, c.Erases(block))
		}
		same(t, "ErrFail", c, b, l, p, 3+i)
	}
	if e := c.Erase(4); e != api.OK || c.Erases(4) != 1 || c.Programmed(4) != 0 {
		t.Errorf("Erase: %d", e)
	}
}

func TestEraseTornWithEachMask(t *testing.T) {
	for mask := range 256 {
		c, p := made(t)
		program(t, c, 1, 1, 2, api.OK)
		program(t, c, 2, 0x12, 0x84, api.OK)
		program(t, c, 2, 0, 0x40, api.OK)
		p.Cut(0, byte(mask))
		if e := c.Erase(2); e != api.ErrTorn {
			t.Fatalf("Erase, torn: %d", e)
		}
		wantPage(t, c, 1, 0, 1, 2)
		wantPage(t, c, 2, 0, 0x12|byte(mask), 0x84|byte(mask))
		wantPage(t, c, 2, 1, byte(mask), 0x40|byte(mask))
		wantPage(t, c, 2, 2, 255, 255)
		if c.Programmed(2) != 2 || c.Programmed(1) != 1 || c.Erases(2) != 0 || p.Steps() != 3 {
			t.Errorf("mask %d: %v, %d erases", mask, counts(c), c.Erases(2))
		}
		p.On()
		program(t, c, 2, 9, 9, api.OK)
		wantPage(t, c, 2, 2, 9, 9)
		if e := c.Erase(2); e != api.OK || c.Programmed(2) != 0 || c.Erases(2) != 1 {
			t.Errorf("mask %d: Erase: %d", mask, e)
		}
		wantPage(t, c, 2, 0, 255, 255)
	}
}

// image answers all pages of a chip of small, erased but for one byte in each of some places.
func image(at ...int) []byte {
	b := fill(255, small.Blocks*small.Pages*(small.Page+api.Spare))
	for _, i := range at {
		b[i] = 254
	}
	return b
}

func TestLoad(t *testing.T) {
	c, p := made(t)
	program(t, c, 4, 1, 2, api.OK)
	if e := c.Erase(1); e != api.OK {
		t.Fatalf("Erase: %d", e)
	}
	b := rising(0, len(image()))
	if e := c.Load(b); e != api.OK {
		t.Fatalf("Load: %d", e)
	}
	same(t, "Load", c, b, []int{3, 3, 3, 3, 3}, p, 2)
	// Page by page, block by block, data ahead of spare.
	data, spare, _ := c.Read(2, 1)
	from := (2*small.Pages + 1) * (small.Page + api.Spare)
	if !bytes.Equal(data, b[from:from+small.Page]) || !bytes.Equal(spare, b[from+small.Page:from+small.Page+api.Spare]) {
		t.Errorf("Read: %v, %v", data, spare)
	}
	if c.Erases(1) != 1 || c.Erases(0) != 0 || c.Erases(4) != 0 {
		t.Error("Load turned the erases")
	}
	if e := c.Load(image()); e != api.OK {
		t.Fatalf("Load: %d", e)
	}
	same(t, "Load of erased bytes", c, image(), []int{0, 0, 0, 0, 0}, p, 2)
}

func TestLoadCountsUpToTheLastThatIsNotErased(t *testing.T) {
	size := small.Page + api.Spare
	for at := range len(image()) {
		c, _ := made(t)
		program(t, c, 0, 1, 2, api.OK)
		if e := c.Load(image(at)); e != api.OK {
			t.Fatalf("Load: %d", e)
		}
		want := make([]int, small.Blocks)
		page := at / size
		want[page/small.Pages] = page%small.Pages + 1
		if !slices.Equal(counts(c), want) {
			t.Fatalf("a byte at %d: %v; want %v", at, counts(c), want)
		}
	}
	// An erased page between, or ahead of, such that are not.
	c, p := made(t)
	b := image(0, 2*size, (1*small.Pages+2)*size)
	if e := c.Load(b); e != api.OK {
		t.Fatalf("Load: %d", e)
	}
	same(t, "Load", c, b, []int{3, 3, 0, 0, 0}, p, 0)
	p.Cut(0, 0)
	if e := c.Erase(0); e != api.ErrTorn {
		t.Errorf("Erase, torn: %d", e)
	}
	same(t, "Erase, torn", c, b, []int{3, 3, 0, 0, 0}, p, 0)
	p.On()
	program(t, c, 2, 1, 2, api.OK)
	if e := c.Erase(0); e != api.OK || c.Programmed(0) != 0 {
		t.Errorf("Erase: %d", e)
	}
	wantPage(t, c, 0, 2, 255, 255)
}

func TestLoadOfWrongLength(t *testing.T) {
	c, p := made(t)
	program(t, c, 0, 1, 2, api.OK)
	b, l := all(t, c), counts(c)
	n := len(b)
	for _, wrong := range [][]byte{nil, {}, b[:1], b[:n-1], b[1:], b[:n-small.Page-api.Spare], append(slices.Clone(b), 255), slices.Concat(b, b)} {
		if e := c.Load(wrong); e != api.ErrArg {
			t.Errorf("Load of %d bytes: %d; want ErrArg", len(wrong), e)
		}
	}
	same(t, "ErrArg", c, b, l, p, 1)
}

func TestLoadWithoutPower(t *testing.T) {
	c, p := made(t)
	p.Fail([]int{0})
	p.Cut(0, 3)
	p.Step()
	b := rising(0, len(image()))
	if e := c.Load(b); e != api.OK {
		t.Fatalf("Load: %d", e)
	}
	same(t, "Load", c, b, []int{3, 3, 3, 3, 3}, p, 0)
}

func TestLoadKeepsNothingHandedIn(t *testing.T) {
	c, p := made(t)
	b := rising(0, len(image()))
	want := slices.Clone(b)
	if e := c.Load(b); e != api.OK {
		t.Fatalf("Load: %d", e)
	}
	p.Cut(0, 0xff)
	if e := c.Erase(0); e != api.ErrTorn || !bytes.Equal(b, want) {
		t.Errorf("Erase turned what was loaded: %d", e)
	}
	clear(b)
	copy(want, fill(255, small.Pages*(small.Page+api.Spare)))
	if !bytes.Equal(all(t, c), want) {
		t.Error("what was loaded is kept")
	}
}

func TestChipsShareAPower(t *testing.T) {
	p := power.New()
	a, _ := New(small, p)
	b, _ := New(small, p)
	p.Fail([]int{1})
	program(t, a, 0, 0xff, 0xff, api.OK)
	program(t, b, 0, 0xff, 0xff, api.ErrFail)
	wantPage(t, a, 0, 0, 0xff, 0xff)
	wantPage(t, b, 0, 0, 0xaa, 0xaa)
	if a.Programmed(0) != 1 || b.Programmed(0) != 1 || p.Steps() != 2 {
		t.Errorf("%v, %v, %d", counts(a), counts(b), p.Steps())
	}
}

func TestNoPower(t *testing.T) {
	c, e := New(small, nil)
	if e != api.OK || c.Power() != nil {
		t.Fatalf("New: %d", e)
	}
	program(t, c, 0, 1, 2, api.OK)
	wantPage(t, c, 0, 0, 1, 2)
	if e := c.Erase(0); e != api.OK || c.Erases(0) != 1 || c.Programmed(0) != 0 {
		t.Errorf("Erase: %d", e)
	}
}

func TestNilChip(t *testing.T) {
	var c *Chip
	data, spare, e := c.Read(0, 0)
	if data != nil || spare != nil || e != api.ErrNil {
		t.Errorf("Read: %v, %v, %d", data, spare, e)
	}
	if e := c.Program(-1, 0, nil, nil); e != api.ErrNil {
		t.Errorf("Program: %d", e)
	}
	if e := c.Erase(-1); e != api.ErrNil {
		t.Errorf("Erase: %d", e)
	}
	if e := c.Load(nil); e != api.ErrNil {
		t.Errorf("Load: %d", e)
	}
	if c.Programmed(0) != 0 || c.Erases(0) != 0 || c.Geometry() != (api.Geometry{}) || c.Power() != nil {
		t.Error("a nil chip has something")
	}
}

func TestZeroChip(t *testing.T) {
	var c Chip
	if _, _, e := c.Read(0, 0); e != api.ErrArg {
		t.Errorf("Read: %d", e)
	}
	if e := c.Program(0, 0, nil, fill(1, api.Spare)); e != api.ErrArg {
		t.Errorf("Program: %d", e)
	}
	if e := c.Erase(0); e != api.ErrArg {
		t.Errorf("Erase: %d", e)
	}
	if e := c.Load([]byte{1}); e != api.ErrArg {
		t.Errorf("Load: %d", e)
	}
	if c.Programmed(0) != 0 || c.Erases(0) != 0 {
		t.Error("a chip without blocks counts")
	}
}
