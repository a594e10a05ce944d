package state

import (
	"fmt"
	"math"
	"reflect"
	"slices"
	"strings"
	"testing"

	"garret/api"
	"garret/inode"
)

// same tells whether two states are; nil and an empty list are.
func same(s, t api.State) bool {
	return s.Next == t.Next && slices.EqualFunc(s.Inodes, t.Inodes, sameInode) && slices.Equal(s.Bad, t.Bad)
}

func sameInode(x, y api.Inode) bool {
	return x.No == y.No && x.Kind == y.Kind && x.Links == y.Links && x.Size == y.Size &&
		x.Target == y.Target && slices.Equal(x.Entries, y.Entries) && slices.Equal(x.Runs, y.Runs)
}

func sameDeeds(k, l []api.Deed) bool {
	return slices.EqualFunc(k, l, func(x, y api.Deed) bool {
		return x.Kind == y.Kind && x.No == y.No && sameInode(x.Inode, y.Inode)
	})
}

func geometry() api.Geometry {
	return api.Geometry{Sectors: 4, Sector: 256, Blocks: 4, Pages: 8, Page: 16}
}

func dir(no, links int, l ...api.Entry) api.Inode {
	return api.Inode{No: no, Kind: api.Dir, Links: links, Entries: l}
}

func file(no, links int, l ...api.Run) api.Inode {
	return api.Inode{No: no, Kind: api.File, Links: links, Runs: l}
}

func link(no, links int) api.Inode {
	return api.Inode{No: no, Kind: api.Link, Links: links, Size: 3, Target: "a/b"}
}

func to(name string, no int) api.Entry { return api.Entry{Name: name, No: no} }

func run(from, at, count int) api.Run { return api.Run{From: from, At: at, Count: count} }

func next(no int) api.Deed { return api.Deed{Kind: api.DoNext, No: no} }

func putOf(x api.Inode) api.Deed { return api.Deed{Kind: api.DoPut, Inode: x} }

func dropOf(no int) api.Deed { return api.Deed{Kind: api.DoDrop, No: no} }

func bad(no int) api.Deed { return api.Deed{Kind: api.DoBad, No: no} }

// full has some of all that a state may have; it is sound on chips of geometry.
func full() api.State {
	return api.State{
		Next: 31,
		Inodes: []api.Inode{
			dir(1, 3, to("a", 4), to("b", 4), to("d", 7), to("l", 9)),
			file(4, 3, run(0, 3, 2), run(5, 0, 1)),
			dir(7, 3, to("a", 4), to("l", 9), to("z", 20)),
			link(9, 2),
			dir(20, 3, to("deep", 21)),
			dir(21, 2),
			file(30, 0, run(7, 31, 1)),
		},
		Bad: []int{1, 3},
	}
}

// addFiles puts files without an entry behind all, until there are n inodes.
func addFiles(s *api.State, n int) {
	for len(s.Inodes) < n {
		s.Inodes = append(s.Inodes, file(s.Next, 0))
		s.Next++
	}
}

// raw does not rise, and has numbers twice.
func raw() api.State {
	return api.State{
		Next:   -4,
		Inodes: []api.Inode{file(5, 1, run(0, 1, 1)), file(2, 1), dir(5, 7, to("a", 2)), file(9, 1)},
		Bad:    []int{9, 4, 9},
	}
}

func TestNew(t *testing.T) {
	want := api.State{Next: 2, Inodes: []api.Inode{{No: 1, Kind: api.Dir, Links: 2}}}
	if s := New(); !same(s, want) {
		t.Errorf("%+v; want %+v", s, want)
	}
	New().Inodes[0].Links = 9
	if s := New(); !same(s, want) {
		t.Errorf("after a write into an answer: %+v", s)
	}
	if !Sound(New(), geometry()) {
		t.Error("it is not sound")
	}
}

func TestApply(t *testing.T) {
	root := dir(1, 2)
	for _, r := range []struct {
		name string
		s    api.State
		l    []api.Deed
		want api.State
	}{
		{"nothing to nothing", api.State{}, nil, api.State{}},
		{"nothing", full(), []api.Deed{}, full()},
		{"nothing, to what does not rise", raw(), nil, raw()},
		{"the next number", New(), []api.Deed{next(9)}, api.State{Next: 9, Inodes: []api.Inode{root}}},
		{"the next number, the last one of them", New(), []api.Deed{next(9), next(-3)}, api.State{Next: -3, Inodes: []api.Inode{root}}},
		{"the next number 0", New(), []api.Deed{next(0)}, api.State{Inodes: []api.Inode{root}}},
		{"a put to nothing", api.State{}, []api.Deed{putOf(file(3, 1))}, api.State{Inodes: []api.Inode{file(3, 1)}}},
		{"a put behind all", New(), []api.Deed{putOf(file(3, 1))}, api.State{Next: 2, Inodes: []api.Inode{root, file(3, 1)}}},
		{"a put ahead of all", New(), []api.Deed{putOf(file(0, 1)), putOf(file(-5, 1))}, api.State{Next: 2, Inodes: []api.Inode{file(-5, 1), file(0, 1), root}}},
		{"a put between", New(), []api.Deed{putOf(file(9, 1)), putOf(link(5, 1)), putOf(file(7, 1))}, api.State{Next: 2, Inodes: []api.Inode{root, link(5, 1), file(7, 1), file(9, 1)}}},
		{"a put in the place", New(), []api.Deed{putOf(file(3, 1, run(0, 1, 1))), putOf(file(5, 1)), putOf(link(3, 2))}, api.State{Next: 2, Inodes: []api.Inode{root, link(3, 2), file(5, 1)}}},
		{"a put of the root", New(), []api.Deed{putOf(dir(1, 3, to("d", 2)))}, api.State{Next: 2, Inodes: []api.Inode{dir(1, 3, to("d", 2))}}},
		{"a put of nothing", New(), []api.Deed{putOf(api.Inode{})}, api.State{Next: 2, Inodes: []api.Inode{{}, root}}},
		{"a put does not ask the deed's own number", New(), []api.Deed{{Kind: api.DoPut, No: 1, Inode: file(3, 1)}}, api.State{Next: 2, Inodes: []api.Inode{root, file(3, 1)}}},
		{"a put of the first one of its number", raw(), []api.Deed{putOf(file(5, 3))}, api.State{Next: -4, Inodes: []api.Inode{file(5, 3), file(2, 1), dir(5, 7, to("a", 2)), file(9, 1)}, Bad: []int{9, 4, 9}}},
		{"a put of a number that stands behind a greater one", raw(), []api.Deed{putOf(file(2, 3))}, api.State{Next: -4, Inodes: []api.Inode{file(5, 1, run(0, 1, 1)), file(2, 3), dir(5, 7, to("a", 2)), file(9, 1)}, Bad: []int{9, 4, 9}}},
		{"a put ahead of the first one above", raw(), []api.Deed{putOf(file(3, 1)), putOf(file(6, 1))}, api.State{Next: -4, Inodes: []api.Inode{file(3, 1), file(5, 1, run(0, 1, 1)), file(2, 1), dir(5, 7, to("a", 2)), file(6, 1), file(9, 1)}, Bad: []int{9, 4, 9}}},
		{"a drop", full(), []api.Deed{dropOf(4), dropOf(30), dropOf(1)}, api.State{Next: 31, Inodes: full().Inodes[2:6], Bad: []int{1, 3}}},
		{"a drop of none", New(), []api.Deed{dropOf(2), dropOf(0)}, New()},
		{"a drop of none from nothing", api.State{}, []api.Deed{dropOf(1)}, api.State{}},
		{"a drop of each one", raw(), []api.Deed{dropOf(5)}, api.State{Next: -4, Inodes: []api.Inode{file(2, 1), file(9, 1)}, Bad: []int{9, 4, 9}}},
		{"a drop of all", New(), []api.Deed{dropOf(1)}, api.State{Next: 2}},
		{"a drop does not ask the deed's inode", New(), []api.Deed{{Kind: api.DoDrop, No: 2, Inode: root}}, New()},
		{"a drop, and a put again", New(), []api.Deed{dropOf(1), putOf(file(1, 0))}, api.State{Next: 2, Inodes: []api.Inode{file(1, 0)}}},
		{"bad blocks", New(), []api.Deed{bad(3), bad(1), bad(2), bad(0), bad(9)}, api.State{Next: 2, Inodes: []api.Inode{root}, Bad: []int{0, 1, 2, 3, 9}}},
		{"bad blocks that are there", full(), []api.Deed{bad(1), bad(3), bad(1)}, full()},
		{"a bad block twice", api.State{}, []api.Deed{bad(-7), bad(-7)}, api.State{Bad: []int{-7}}},
		{"bad blocks, of those that do not rise", raw(), []api.Deed{bad(6), bad(4), bad(10), bad(9)}, api.State{Next: -4, Inodes: raw().Inodes, Bad: []int{6, 9, 4, 9, 10}}},
		{"other kinds", full(), []api.Deed{{}, {Kind: 5, No: 4}, {Kind: -1, No: 4}, {Kind: 256 + api.DoDrop, No: 4}, {Kind: 1<<32 + api.DoNext, No: 4}, {Kind: math.MinInt, Inode: root}, {Kind: math.MaxInt, No: 1}}, full()},
		{"deed by deed", New(), []api.Deed{putOf(file(2, 1)), {Kind: 9, No: 2}, next(3), putOf(dir(1, 2, to("f", 2))), dropOf(2), putOf(dir(1, 2)), bad(2), putOf(file(3, 0)), next(4)}, api.State{Next: 4, Inodes: []api.Inode{root, file(3, 0)}, Bad: []int{2}}},
	} {
		if s := Apply(r.s, r.l); !same(s, r.want) {
			t.Errorf("%s: %+v; want %+v", r.name, s, r.want)
		}
	}
}

// TestApplyOfTheEnds: numbers are held against each other, not taken off each other.
func TestApplyOfTheEnds(t *testing.T) {
	s := Apply(api.State{}, []api.Deed{
		putOf(file(math.MaxInt, 1)), putOf(file(math.MinInt, 1)), putOf(file(0, 1)), putOf(file(math.MaxInt-1, 1)), putOf(file(math.MinInt+1, 1)),
		bad(math.MaxInt), bad(math.MinInt), bad(0), next(math.MaxInt),
	})
	want := api.State{
		Next:   math.MaxInt,
		Inodes: []api.Inode{file(math.MinInt, 1), file(math.MinInt+1, 1), file(0, 1), file(math.MaxInt-1, 1), file(math.MaxInt, 1)},
		Bad:    []int{math.MinInt, 0, math.MaxInt},
	}
	if !same(s, want) {
		t.Errorf("%+v; want %+v", s, want)
	}
}

// TestApplyInPieces: deeds that come one by one lead to the same state as all of them at once.
func TestApplyInPieces(t *testing.T) {
	var l []api.Deed
	for i := range 600 {
		no := i * 7 % 41
		l = append(l, []api.Deed{putOf(file(no, i%5)), bad(no), next(i), dropOf(no / 2), putOf(dir(no+1, i%3, to("a", i))), {Kind: i}}[i%6])
	}
	for _, start := range []func() api.State{New, full, raw, func() api.State { return api.State{} }} {
		s := start()
		for i, d := range l {
			s = Apply(s, []api.Deed{d})
			if i%50 == 0 && !same(s, Apply(start(), l[:i+1])) {
				t.Fatalf("%d deeds: %+v", i+1, s)
			}
		}
		if !same(s, Apply(start(), l)) {
			t.Errorf("all deeds: %+v", s)
		}
	}
}

func TestWhole(t *testing.T) {
	for _, r := range []struct {
		name string
		s    api.State
		want []api.Deed
	}{
		{"nothing", api.State{}, []api.Deed{next(0)}},
		{"New", New(), []api.Deed{next(2), putOf(dir(1, 2))}},
		{"bad blocks alone", api.State{Next: 7, Bad: []int{0, 5}}, []api.Deed{next(7), bad(0), bad(5)}},
		{"in order, even if that does not rise", raw(), []api.Deed{
			next(-4), putOf(raw().Inodes[0]), putOf(file(2, 1)), putOf(raw().Inodes[2]), putOf(file(9, 1)), bad(9), bad(4), bad(9),
		}},
	} {
		if l := Whole(r.s); !sameDeeds(l, r.want) {
			t.Errorf("%s: %+v; want %+v", r.name, l, r.want)
		}
	}
}

// TestWholeIsTheState: applied to no state; and to any one it puts all that was there back.
func TestWholeIsTheState(t *testing.T) {
	for i, s := range []api.State{{}, New(), full(), {Next: 5, Bad: []int{2}}, {Next: -1, Inodes: []api.Inode{link(3, 1)}}} {
		if got := Apply(api.State{}, Whole(s)); !same(got, s) {
			t.Errorf("state %d: %+v; want %+v", i, got, s)
		}
		if got := Apply(s, Whole(s)); !same(got, s) {
			t.Errorf("state %d, applied to itself: %+v; want %+v", i, got, s)
		}
	}
}

func TestFind(t *testing.T) {
	for i, x := range full().Inodes {
		if got, ok := Find(full(), x.No); !ok || !sameInode(got, x) {
			t.Errorf("inode %d: %+v, %v", i, got, ok)
		}
	}
	for _, no := range []int{0, 2, 3, 5, 31, -1, -4, math.MinInt, math.MaxInt} {
		if x, ok := Find(full(), no); ok || !reflect.DeepEqual(x, api.Inode{}) {
			t.Errorf("%d, which is not there: %+v, %v", no, x, ok)
		}
	}
	if x, ok := Find(api.State{}, 0); ok || !reflect.DeepEqual(x, api.Inode{}) {
		t.Errorf("0 in nothing: %+v, %v", x, ok)
	}
	if x, ok := Find(raw(), 5); !ok || !sameInode(x, raw().Inodes[0]) {
		t.Errorf("the first of two: %+v, %v", x, ok)
	}
	if x, ok := Find(raw(), 2); !ok || !sameInode(x, file(2, 1)) {
		t.Errorf("behind a greater one: %+v, %v", x, ok)
	}
	if x, ok := Find(api.State{Inodes: []api.Inode{{}}}, 0); !ok || x.No != 0 {
		t.Errorf("0, which is there: %+v, %v", x, ok)
	}
}

// TestSoundOfChips: of those that nor.Right tells to be.
func TestSoundOfChips(t *testing.T) {
	if Sound(New(), api.Geometry{}) {
		t.Error("sound without chips")
	}
	for _, r := range []struct {
		name string
		turn func(g *api.Geometry)
		want bool
	}{
		{"as they are", func(g *api.Geometry) {}, true},
		{"odd sectors", func(g *api.Geometry) { g.Sectors = 3 }, false},
		{"small sectors", func(g *api.Geometry) { g.Sector = api.MinSector - 1 }, false},
		{"few blocks", func(g *api.Geometry) { g.Blocks = api.MinBlocks - 1 }, false},
		{"many blocks", func(g *api.Geometry) { g.Blocks = api.MaxBlocks + 1 }, false},
		{"few pages", func(g *api.Geometry) { g.Pages = 1 }, false},
		{"small pages", func(g *api.Geometry) { g.Page = api.MinPage - 1 }, false},
		{"the greatest", func(g *api.Geometry) {
			*g = api.Geometry{Sectors: api.MaxSectors, Sector: api.MaxSector, Blocks: api.MaxBlocks, Pages: api.MaxPages, Page: api.MaxPage}
		}, true},
	} {
		g := geometry()
		r.turn(&g)
		if Sound(New(), g) != r.want {
			t.Errorf("%s: %v", r.name, !r.want)
		}
	}
}

func TestSoundOfNumbers(t *testing.T) {
	for _, r := range []struct {
		name string
		turn func(s *api.State)
		want bool
	}{
		{"as it is", func(s *api.State) {}, true},
		{"the next number just above", func(s *api.State) { s.Next = 31 }, true},
		{"the next number there", func(s *api.State) { s.Next = 30 }, false},
		{"the next number below", func(s *api.State) { s.Next = 3 }, false},
		{"the next number 0", func(s *api.State) { s.Next = 0 }, false},
		{"the next number below 0", func(s *api.State) { s.Next = -1 }, false},
		{"the greatest next number", func(s *api.State) { s.Next = 1<<31 - 1 }, true},
		{"a next number above it", func(s *api.State) { s.Next = 1 << 31 }, false},
		{"the greatest of all", func(s *api.State) { s.Next = math.MaxInt }, false},
		{"the greatest number", func(s *api.State) { s.Next, s.Inodes[6].No = 1<<31-1, 1<<31-2 }, true},
		{"a number above it", func(s *api.State) { s.Next, s.Inodes[6].No = 1<<31-1, 1<<31-1 }, false},
		{"a number twice", func(s *api.State) { s.Inodes[6] = dir(21, 2) }, false},
		{"a file twice", func(s *api.State) { s.Inodes = append(s.Inodes, file(30, 0)) }, false},
		{"numbers that fall", func(s *api.State) { s.Inodes[5], s.Inodes[6] = s.Inodes[6], s.Inodes[5] }, false},
		{"the root not first", func(s *api.State) { s.Inodes[0], s.Inodes[1] = s.Inodes[1], s.Inodes[0] }, false},
		{"the number 0", func(s *api.State) { s.Inodes = slices.Insert(s.Inodes, 0, file(0, 0)) }, false},
		{"a number below 0", func(s *api.State) { s.Inodes = slices.Insert(s.Inodes, 0, file(-1, 0)) }, false},
		{"a number between", func(s *api.State) { s.Inodes = slices.Insert(s.Inodes, 1, file(3, 0)) }, true},
		{"as many as there may be", func(s *api.State) { addFiles(s, api.MaxInodes) }, true},
		{"one more", func(s *api.State) { addFiles(s, api.MaxInodes+1) }, false},
		{"bad blocks, none", func(s *api.State) { s.Bad = nil }, true},
		{"bad blocks, all", func(s *api.State) { s.Bad = []int{0, 1, 2, 3} }, true},
		{"the last block", func(s *api.State) { s.Bad = []int{3} }, true},
		{"a block above it", func(s *api.State) { s.Bad = []int{4} }, false},
		{"a block above it behind others", func(s *api.State) { s.Bad = []int{0, 1, 64} }, false},
		{"a block below 0", func(s *api.State) { s.Bad = []int{-1} }, false},
		{"a block twice", func(s *api.State) { s.Bad = []int{2, 2} }, false},
		{"blocks that fall", func(s *api.State) { s.Bad = []int{0, 2, 1} }, false},
	} {
		s := full()
		r.turn(&s)
		if Sound(s, geometry()) != r.want {
			t.Errorf("%s: %v", r.name, !r.want)
		}
	}
}

// TestSoundOfInodes: each must be right on its own, whatever is wrong with it.
func TestSoundOfInodes(t *testing.T) {
	for _, r := range []struct {
		name string
		turn func(l []api.Inode)
	}{
		{"no kind", func(l []api.Inode) { l[6].Kind = 0 }},
		{"a kind above all", func(l []api.Inode) { l[6].Kind = 4 }},
		{"links below 0", func(l []api.Inode) { l[6].Links = -1 }},
		{"a size above the greatest", func(l []api.Inode) { l[6].Size = api.MaxFile*api.MaxPage + 1 }},
		{"a file with a target", func(l []api.Inode) { l[6].Target = "a" }},
		{"a file with entries", func(l []api.Inode) { l[6].Entries = []api.Entry{to("q", 4)}; l[1].Links++ }},
		{"a file with runs that are none", func(l []api.Inode) { l[6].Runs = []api.Run{run(0, 31, 0)} }},
		{"a file with runs that fall", func(l []api.Inode) { slices.Reverse(l[1].Runs) }},
		{"a file with runs that could be one", func(l []api.Inode) { l[1].Runs = []api.Run{run(0, 3, 1), run(1, 4, 1)} }},
		{"a file with a page below 0", func(l []api.Inode) { l[6].Runs[0].From = -1 }},
		{"a file with a page above the last", func(l []api.Inode) { l[6].Runs[0].From = api.MaxFile }},
		{"a link with another size", func(l []api.Inode) { l[3].Size = 4 }},
		{"a link without a target", func(l []api.Inode) { l[3].Target, l[3].Size = "", 0 }},
		{"a link with runs", func(l []api.Inode) { l[3].Runs = []api.Run{run(0, 20, 1)} }},
		{"a directory with a size", func(l []api.Inode) { l[5].Size = 1 }},
		{"a directory with runs", func(l []api.Inode) { l[5].Runs = []api.Run{run(0, 20, 1)} }},
		{"a directory with a name that may not be", func(l []api.Inode) { l[0].Entries[0].Name = "." }},
		{"a directory with names that fall", func(l []api.Inode) { slices.Reverse(l[0].Entries) }},
		{"a directory with a name twice", func(l []api.Inode) { l[0].Entries[1].Name = "a" }},
		{"a directory with a number that may not be", func(l []api.Inode) { l[0].Entries[0].No = 0; l[1].Links-- }},
	} {
		s := full()
		r.turn(s.Inodes)
		if Sound(s, geometry()) {
			t.Errorf("%s: sound", r.name)
		}
	}
}

func TestSoundOfTheRoot(t *testing.T) {
	for _, r := range []struct {
		name string
		l    []api.Inode
		want bool
	}{
		{"nothing", nil, false},
		{"nothing but a file", []api.Inode{file(2, 0)}, false},
		{"nothing but another directory", []api.Inode{dir(2, 2)}, false},
		{"a root that is a file", []api.Inode{file(1, 0)}, false},
		{"a root that is a link", []api.Inode{link(1, 0)}, false},
		{"a root without links", []api.Inode{dir(1, 0)}, false},
		{"a root with one link", []api.Inode{dir(1, 1)}, false},
		{"the root", []api.Inode{dir(1, 2)}, true},
		{"a root with a link more", []api.Inode{dir(1, 3)}, false},
		{"a root that is in itself", []api.Inode{dir(1, 3, to("r", 1))}, false},
		{"a root that is in itself, and has not counted it", []api.Inode{dir(1, 2, to("r", 1))}, false},
		{"a root that is in another one", []api.Inode{dir(1, 3, to("d", 2)), dir(2, 3, to("r", 1))}, false},
	} {
		if Sound(api.State{Next: 9, Inodes: r.l}, geometry()) != r.want {
			t.Errorf("%s: %v", r.name, !r.want)
		}
	}
}

func TestSoundOfLinks(t *testing.T) {
	for _, r := range []struct {
		name string
		l    []api.Inode
		want bool
	}{
		{"a file that nothing leads to", []api.Inode{dir(1, 2), file(2, 0)}, true},
		{"a file that nothing leads to, with a link", []api.Inode{dir(1, 2), file(2, 1)}, false},
		{"a link that nothing leads to", []api.Inode{dir(1, 2), link(2, 0)}, true},
		{"a link that nothing leads to, with a link", []api.Inode{dir(1, 2), link(2, 1)}, false},
		{"a file", []api.Inode{dir(1, 2, to("f", 2)), file(2, 1)}, true},
		{"a file with no link", []api.Inode{dir(1, 2, to("f", 2)), file(2, 0)}, false},
		{"a file with a link more", []api.Inode{dir(1, 2, to("f", 2)), file(2, 2)}, false},
		{"a file that is counted as a directory", []api.Inode{dir(1, 3, to("f", 2)), file(2, 1)}, false},
		{"a link that is counted as a directory", []api.Inode{dir(1, 3, to("f", 2)), link(2, 1)}, false},
		{"a file twice in one directory", []api.Inode{dir(1, 2, to("f", 2), to("g", 2)), file(2, 2)}, true},
		{"a link twice, and told to be there once", []api.Inode{dir(1, 2, to("f", 2), to("g", 2)), link(2, 1)}, false},
		{"a file in two directories", []api.Inode{dir(1, 3, to("d", 3), to("f", 2)), file(2, 2), dir(3, 2, to("f", 2))}, true},
		{"a file in two directories, told to be in one", []api.Inode{dir(1, 3, to("d", 3), to("f", 2)), file(2, 1), dir(3, 2, to("f", 2))}, false},
		{"an entry that leads nowhere", []api.Inode{dir(1, 2, to("f", 3)), file(2, 0)}, false},
		{"an entry that leads to the next number", []api.Inode{dir(1, 2, to("f", 9))}, false},
		{"an entry that leads nowhere, of a directory below", []api.Inode{dir(1, 3, to("d", 2)), dir(2, 2, to("f", 3))}, false},
		{"a directory in a directory", []api.Inode{dir(1, 3, to("d", 2)), dir(2, 2)}, true},
		{"a directory that its own does not count", []api.Inode{dir(1, 2, to("d", 2)), dir(2, 2)}, false},
		{"a directory with one link", []api.Inode{dir(1, 3, to("d", 2)), dir(2, 1)}, false},
		{"a directory with a link more", []api.Inode{dir(1, 3, to("d", 2)), dir(2, 3)}, false},
		{"a directory that no entry leads to", []api.Inode{dir(1, 2), dir(2, 2)}, false},
		{"a directory twice in one", []api.Inode{dir(1, 4, to("d", 2), to("e", 2)), dir(2, 2)}, false},
		{"a directory in two", []api.Inode{dir(1, 4, to("d", 2), to("e", 3)), dir(2, 2), dir(3, 3, to("d", 2))}, false},
		{"a directory in itself", []api.Inode{dir(1, 2), dir(2, 3, to("d", 2))}, false},
		{"a directory in the root, and in itself", []api.Inode{dir(1, 3, to("d", 2)), dir(2, 3, to("d", 2))}, false},
		{"two directories in each other", []api.Inode{dir(1, 2), dir(2, 3, to("d", 3)), dir(3, 3, to("d", 2))}, false},
		{"a ring of three, with one that hangs from it", []api.Inode{dir(1, 2), dir(2, 3, to("d", 3)), dir(3, 4, to("d", 4), to("e", 5)), dir(4, 3, to("d", 2)), dir(5, 2)}, false},
		{"a ring beside a tree", []api.Inode{dir(1, 3, to("d", 2)), dir(2, 2), dir(3, 3, to("d", 4)), dir(4, 3, to("d", 3))}, false},
		{"a directory whose number is above that of the one in it", []api.Inode{dir(1, 3, to("d", 3)), dir(2, 2), dir(3, 3, to("d", 2))}, true},
	} {
		if Sound(api.State{Next: 9, Inodes: r.l}, geometry()) != r.want {
			t.Errorf("%s: %v", r.name, !r.want)
		}
	}
}

// chain answers a root, and directories down from it, each within the one ahead, until there are n; down tells whether their numbers rise on the way down.
func chain(n int, down bool) api.State {
	s := api.State{Next: n + 1}
	for no := 1; no <= n; no++ {
		s.Inodes = append(s.Inodes, dir(no, 3))
	}
	ahead := 1
	for i := range n - 1 {
		no := i + 2
		if !down {
			no = n - i
		}
		s.Inodes[ahead-1].Entries = []api.Entry{to("d", no)}
		ahead = no
	}
	s.Inodes[ahead-1].Links = 2
	return s
}

// TestSoundOfDeepDirectories: as deep as inodes allow; a ring at the end of it is found.
func TestSoundOfDeepDirectories(t *testing.T) {
	for _, n := range []int{1, 2, 3, 50, api.MaxInodes} {
		for _, down := range []bool{true, false} {
			if !Sound(chain(n, down), geometry()) {
				t.Errorf("%d directories, %v: not sound", n, down)
			}
		}
	}
	if Sound(chain(api.MaxInodes+1, true), geometry()) {
		t.Error("one more than there may be: sound")
	}
	s := chain(api.MaxInodes, true)
	s.Inodes[0].Entries, s.Inodes[0].Links = nil, 2
	last := &s.Inodes[api.MaxInodes-1]
	last.Entries, last.Links = []api.Entry{to("d", 2)}, 3
	if Sound(s, geometry()) {
		t.Error("a ring of all but the root: sound")
	}
}

// TestSoundOfManyLinks: as many as an inode, and a directory, may have.
func TestSoundOfManyLinks(t *testing.T) {
	names := func(n int, no func(i int) int) []api.Entry {
		var l []api.Entry
		for i := range n {
			l = append(l, to(fmt.Sprintf("%03d", i), no(i)))
		}
		return l
	}
	dirs := func(n int) api.State {
		s := api.State{Next: 1000, Inodes: []api.Inode{dir(1, 2+n, names(n, func(i int) int { return i + 2 })...)}}
		for i := range n {
			s.Inodes = append(s.Inodes, dir(i+2, 2))
		}
		return s
	}
	files := func(n int) api.State {
		return api.State{Next: 3, Inodes: []api.Inode{dir(1, 2, names(n, func(int) int { return 2 })...), file(2, n)}}
	}
	for _, r := range []struct {
		name string
		s    api.State
		want bool
	}{
		{"directories", dirs(api.MaxLinks - 2), true},
		{"a directory more", dirs(api.MaxLinks - 1), false},
		{"entries that lead to one file", files(api.MaxLinks), true},
		{"an entry more", files(api.MaxLinks + 1), false},
	} {
		if Sound(r.s, geometry()) != r.want {
			t.Errorf("%s: %v", r.name, !r.want)
		}
	}
}

func TestSoundOfPlaces(t *testing.T) {
	last := geometry().Blocks*geometry().Pages - 1
	for _, r := range []struct {
		name string
		a, b []api.Run
		want bool
	}{
		{"none", nil, nil, true},
		{"the first, and the last", []api.Run{run(0, 0, 1)}, []api.Run{run(0, last, 1)}, true},
		{"all", []api.Run{run(0, 0, last+1)}, nil, true},
		{"one behind the last", []api.Run{run(0, last+1, 1)}, nil, false},
		{"a run that ends behind the last", []api.Run{run(0, last, 2)}, nil, false},
		{"one more than all", []api.Run{run(0, 0, last+2)}, nil, false},
		{"one behind the last, of another run", []api.Run{run(0, 0, 1), run(5, last+1, 1)}, nil, false},
		{"one behind the last, of another inode", nil, []api.Run{run(5, last+1, 1)}, false},
		{"far behind the last", []api.Run{run(0, 1<<31-1, 1)}, nil, false},
		{"as far as a number goes", []api.Run{run(0, math.MaxInt, 1)}, nil, false},
		{"below 0", []api.Run{run(0, -1, 1)}, nil, false},
		{"one twice, of one inode", []api.Run{run(0, 3, 1), run(1, 3, 1)}, nil, false},
		{"one twice, of two inodes", []api.Run{run(0, 3, 1)}, []api.Run{run(0, 3, 1)}, false},
		{"place 0 twice", []api.Run{run(0, 0, 1)}, []api.Run{run(3, 0, 1)}, false},
		{"the end of a run, and the beginning of one", []api.Run{run(0, 3, 4)}, []api.Run{run(0, 6, 2)}, false},
		{"a run within another one", []api.Run{run(0, 3, 9)}, []api.Run{run(0, 6, 2)}, false},
		{"runs side by side", []api.Run{run(0, 3, 3)}, []api.Run{run(0, 6, 2), run(2, 1, 2)}, true},
		{"places that fall", []api.Run{run(0, 9, 1), run(1, 8, 1), run(2, 7, 1)}, nil, true},
		{"the same pages at others", []api.Run{run(4, 9, 2)}, []api.Run{run(4, 11, 2)}, true},
		{"pages of a bad block", []api.Run{run(0, geometry().Pages, 2)}, nil, true},
	} {
		s := api.State{Next: 9, Inodes: []api.Inode{dir(1, 2, to("a", 2)), file(2, 1, r.a...), file(5, 0, r.b...)}, Bad: []int{1}}
		if Sound(s, geometry()) != r.want {
			t.Errorf("%s: %v", r.name, !r.want)
		}
	}
	small := api.Geometry{Sectors: 2, Sector: 256, Blocks: 5, Pages: 3, Page: 200}
	for at, want := range map[int]bool{14: true, 15: false, 24: false} {
		if Sound(api.State{Next: 9, Inodes: []api.Inode{dir(1, 2), file(2, 0, run(0, at, 1))}}, small) != want {
			t.Errorf("the place %d of 5 blocks of 3 pages: %v", at, !want)
		}
	}
}

// TestSoundOfWhatIsMade: inodes as they are made, put into a state.
func TestSoundOfWhatIsMade(t *testing.T) {
	root := inode.New(api.Root, api.Dir, "")
	root.Entries, root.Links = []api.Entry{to("d", 2), to("f", 3), to("l", 4)}, 3
	s := Apply(New(), []api.Deed{
		putOf(inode.New(2, api.Dir, "")), putOf(inode.New(3, api.File, "")), putOf(inode.New(4, api.Link, strings.Repeat("t", api.MaxTarget))), putOf(root), next(5), bad(3),
	})
	if !Sound(s, geometry()) {
		t.Errorf("%+v", s)
	}
	if Sound(Apply(s, []api.Deed{dropOf(4)}), geometry()) {
		t.Error("sound with an entry that leads nowhere")
	}
}

func TestWhatIsHandedInStays(t *testing.T) {
	for _, make := range []func() api.State{New, full, raw} {
		// With room behind the ends, where a careless append would write.
		s := make()
		s.Inodes = append(slices.Grow(s.Inodes, 3), file(77, 1))[:len(s.Inodes)]
		s.Bad = append(slices.Grow(s.Bad, 3), 77)[:len(s.Bad)]
		kept := make()
		deeds := func() []api.Deed {
			return []api.Deed{next(8), putOf(dir(6, 2, to("a", 2))), bad(5), dropOf(2), bad(7), putOf(file(9, 5, run(0, 1, 1))), dropOf(1), dropOf(5), bad(0)}
		}
		l := deeds()
		first := Apply(s, l)
		again := Apply(s, nil)
		Whole(s)
		Find(s, 5)
		Sound(s, geometry())
		if !same(s, kept) || s.Inodes[:len(s.Inodes)+1][len(s.Inodes)].No != 77 || s.Bad[:len(s.Bad)+1][len(s.Bad)] != 77 {
			t.Errorf("the state was turned: %+v", s)
		}
		if !sameDeeds(l, deeds()) {
			t.Errorf("the deeds were turned: %+v", l)
		}
		if !same(again, kept) || !same(first, Apply(kept, l)) {
			t.Error("what was answered was turned later")
		}
	}
}

// spoilAll writes into all that x has, and behind its ends.
func spoilAll(x *api.Inode) {
	clear(x.Entries)
	clear(x.Runs)
	x.Entries = append(x.Entries, to("z", 99))
	x.Runs = append(x.Runs, run(9, 9, 9))
}

// TestAnswersAreNewMemory: who writes into what was handed in, or out, turns nothing else.
func TestAnswersAreNewMemory(t *testing.T) {
	s, x := full(), dir(40, 2, to("a", 4))
	y := file(41, 2, run(0, 20, 1))
	l := []api.Deed{putOf(x), putOf(x), putOf(y), bad(2), bad(0)}
	x2 := dir(42, 2, x.Entries...) // shares its list with x
	x2.Entries = x.Entries
	l = append(l, putOf(x2))
	turned, whole := Apply(s, l), Whole(s)
	found, _ := Find(s, 7)
	foundFile, _ := Find(s, 4)
	for i := range s.Inodes {
		spoilAll(&s.Inodes[i])
	}
	clear(s.Inodes)
	clear(s.Bad)
	spoilAll(&l[0].Inode)
	spoilAll(&l[2].Inode)
	clear(l)
	want := full()
	want.Inodes = append(want.Inodes, dir(40, 2, to("a", 4)), file(41, 2, run(0, 20, 1)), dir(42, 2, to("a", 4)))
	want.Bad = []int{0, 1, 2, 3}
	if !same(turned, want) {
		t.Errorf("Apply kept what was handed in: %+v", turned)
	}
	if !sameDeeds(whole, Whole(full())) {
		t.Errorf("Whole kept what was handed in: %+v", whole)
	}
	if !sameInode(found, full().Inodes[2]) || !sameInode(foundFile, full().Inodes[1]) {
		t.Errorf("Find kept what was handed in: %+v, %+v", found, foundFile)
	}
	for i := range turned.Inodes {
		spoilAll(&turned.Inodes[i])
		if !slices.EqualFunc(turned.Inodes[i+1:], want.Inodes[i+1:], sameInode) {
			t.Fatalf("the inode %d of an answer shares memory with one behind it", i)
		}
	}
	for i := range whole {
		spoilAll(&whole[i].Inode)
		if !sameDeeds(whole[i+1:], Whole(full())[i+1:]) {
			t.Fatalf("the deed %d of an answer shares memory with one behind it", i)
		}
	}
}
