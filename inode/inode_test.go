package inode

import (
	"fmt"
	"math"
	"reflect"
	"slices"
	"strings"
	"testing"

	"garret/api"
	"garret/entries"
	"garret/runs"
)

const limit = 1<<31 - 1

// noKinds are numbers that are no kinds.
func noKinds() []int {
	return []int{0, -1, 4, 5, 255, 257, 258, 259, 1 << 32, 1<<32 + 1, math.MinInt, math.MaxInt}
}

// long is a text of n bytes.
func long(n int) string {
	return strings.Repeat("x", n)
}

// many is n entries, rising.
func many(n int) []api.Entry {
	var l []api.Entry
	for i := range n {
		l = append(l, api.Entry{Name: fmt.Sprintf("n%05d", i), No: i + 2})
	}
	return l
}

func file() api.Inode {
	return api.Inode{No: 5, Kind: api.File, Links: 1, Size: 20, Runs: []api.Run{{From: 0, At: 9, Count: 2}, {From: 4, At: 3, Count: 1}}}
}

func dir() api.Inode {
	return api.Inode{No: 6, Kind: api.Dir, Links: 2, Entries: []api.Entry{{Name: "a", No: 7}, {Name: "b", No: 8}}}
}

func link() api.Inode {
	return api.Inode{No: 7, Kind: api.Link, Links: 1, Size: 3, Target: "a/b"}
}

// same tells whether two inodes are the same.
func same(x, y api.Inode) bool {
	return x.No == y.No && x.Kind == y.Kind && x.Links == y.Links && x.Size == y.Size && x.Target == y.Target &&
		slices.Equal(x.Entries, y.Entries) && slices.Equal(x.Runs, y.Runs)
}

// copied is x in memory of its own.
func copied(x api.Inode) api.Inode {
	x.Entries, x.Runs = slices.Clone(x.Entries), slices.Clone(x.Runs)
	return x
}

func TestNewOfEachKind(t *testing.T) {
	for _, no := range []int{2, 1, 0, -1, limit, math.MinInt, math.MaxInt} {
		for _, target := range []string{"", "a", "a/b", "\x00", "\u00e9", long(200), long(201), long(70_000)} {
			for _, want := range []api.Inode{
				{No: no, Kind: api.File, Links: 1},
				{No: no, Kind: api.Dir, Links: 2},
				{No: no, Kind: api.Link, Links: 1, Size: len(target), Target: target},
			} {
				if x := New(no, want.Kind, target); !same(x, want) {
					t.Errorf("%d, %d, %q: %+v; want %+v", no, want.Kind, target, x, want)
				}
			}
		}
	}
}

func TestNewOfNoKind(t *testing.T) {
	for _, kind := range noKinds() {
		if x := New(5, kind, "a/b"); !same(x, api.Inode{No: 5, Kind: kind, Links: 1}) || Right(x) {
			t.Errorf("the kind %d: %+v, Right %v", kind, x, Right(x))
		}
	}
}

// TestWhatIsNewIsRight: if its number, its kind, and its target are.
func TestWhatIsNewIsRight(t *testing.T) {
	for target, ok := range map[string]bool{
		"": false, "a": true, "/": true, "..": true, "//": true, "a//b": true, " ": true, "\xff": true,
		"\x00": false, "a\x00": false, "\x00a": false, "a\x00b": false,
		long(33): true, long(199): true, long(200): true, long(201): false, long(400): false,
		long(199) + "\x00": false, long(200) + "\x00": false,
		strings.Repeat("\u00e9", 100): true, strings.Repeat("\u00e9", 100) + "x": false, strings.Repeat("\u00e9", 101): false,
	} {
		for no, above := range map[int]bool{1: true, 2: true, 200: true, limit: true, math.MaxInt: true, 0: false, -1: false, math.MinInt: false} {
			for kind, want := range map[int]bool{api.File: above, api.Dir: above, api.Link: above && ok} {
				if x := New(no, kind, target); Right(x) != want {
					t.Errorf("%d, %d, %q: Right %v", no, kind, target, !want)
				}
			}
		}
	}
}

func TestRightOfNumbersKindsAndLinks(t *testing.T) {
	for _, x := range []api.Inode{file(), dir(), link()} {
		if !Right(x) {
			t.Fatalf("%+v is not Right", x)
		}
		for no, want := range map[int]bool{1: true, 2: true, 201: true, limit: true, math.MaxInt: true, 0: false, -1: false, math.MinInt: false} {
			y := x
			y.No = no
			if Right(y) != want {
				t.Errorf("the number %d of the kind %d: Right %v", no, x.Kind, !want)
			}
		}
		for links, want := range map[int]bool{0: true, 1: true, 2: true, 99: true, 100: true, 101: false, -1: false, math.MinInt: false, math.MaxInt: false} {
			y := x
			y.Links = links
			if Right(y) != want {
				t.Errorf("%d links of the kind %d: Right %v", links, x.Kind, !want)
			}
		}
		for _, kind := range append(noKinds(), api.File, api.Dir, api.Link) {
			y := x
			y.Kind = kind
			if Right(y) != (kind == x.Kind) {
				t.Errorf("%+v: Right %v", y, Right(y))
			}
		}
	}
	for _, kind := range noKinds() {
		if Right(api.Inode{No: 5, Kind: kind, Links: 1}) {
			t.Errorf("the kind %d is Right", kind)
		}
	}
	if Right(api.Inode{}) {
		t.Error("the zero value is Right")
	}
}

// TestRightOfSizes: of a File up to all that it may have, whatever pages are there; of a Dir 0; of a Link its Target's.
func TestRightOfSizes(t *testing.T) {
	sizes := []int{0, 1, 2, 3, 4, 19, 200, 255, 256, 16_383, 16_384, 16_385, 1 << 31, 1 << 32, 1<<32 + 3, -1, -3, math.MinInt, math.MaxInt}
	for _, size := range sizes {
		for _, x := range []api.Inode{file(), New(5, api.File, "")} {
			x.Size = size
			if want := size >= 0 && size <= 64*256; Right(x) != want {
				t.Errorf("a File of %d: Right %v", size, !want)
			}
		}
		for _, x := range []api.Inode{dir(), New(5, api.Dir, "")} {
			x.Size = size
			if want := size == 0; Right(x) != want {
				t.Errorf("a Dir of %d: Right %v", size, !want)
			}
		}
		for _, target := range []string{"a", "abc", "\u00e9", long(200), long(255), long(256), long(16_384)} {
			x := New(5, api.Link, target)
			x.Size = size
			if want := size == len(target) && size <= 200; Right(x) != want {
				t.Errorf("a Link of %d to %d bytes: Right %v", size, len(target), !want)
			}
		}
		x := New(5, api.Link, "")
		x.Size = size
		if Right(x) {
			t.Errorf("a Link of %d to nothing is Right", size)
		}
	}
}

func TestRightOfRuns(t *testing.T) {
	for _, l := range [][]api.Run{
		nil,
		{},
		{{From: 0, At: 0, Count: 64}},
		{{From: 63, At: limit, Count: 1}},
		{{From: 60, At: 0, Count: 4}},
		{{From: 60, At: 0, Count: 5}},
		{{From: 64, At: 0, Count: 1}},
		{{From: 0, At: 5, Count: 0}},
		{{From: -1, At: 5, Count: 1}},
		{{From: 0, At: -1, Count: 1}},
		{{From: 0, At: limit, Count: 2}},
		{{From: 0, At: 5, Count: 1}, {From: 1, At: 6, Count: 1}},
		{{From: 0, At: 5, Count: 1}, {From: 1, At: 7, Count: 1}},
		{{From: 1, At: 5, Count: 1}, {From: 0, At: 9, Count: 1}},
		{{From: 0, At: 5, Count: 2}, {From: 1, At: 9, Count: 1}},
	} {
		x := file()
		x.Runs = l
		if Right(x) != runs.Right(l) {
			t.Errorf("a File at %v: Right %v", l, Right(x))
		}
		for _, x := range []api.Inode{dir(), link(), New(5, api.Dir, "")} {
			x.Runs = l
			if Right(x) != (len(l) == 0) {
				t.Errorf("the kind %d at %v: Right %v", x.Kind, l, Right(x))
			}
		}
	}
}

func TestRightOfEntries(t *testing.T) {
	for _, l := range [][]api.Entry{
		nil,
		{},
		{{Name: "a", No: 1}},
		{{Name: "a", No: 6}},
		{{Name: "a"}},
		{{Name: "a", No: -1}},
		{{Name: "", No: 7}},
		{{Name: "..", No: 7}},
		{{Name: "a/b", No: 7}},
		{{Name: long(32), No: 7}},
		{{Name: long(33), No: 7}},
		{{Name: "a", No: 7}, {Name: "b", No: 7}},
		{{Name: "b", No: 7}, {Name: "a", No: 8}},
		{{Name: "a", No: 7}, {Name: "a", No: 8}},
		many(99), many(100), many(101),
	} {
		x := dir()
		x.Entries = l
		if Right(x) != entries.Right(l) {
			t.Errorf("a Dir of %v: Right %v", l, Right(x))
		}
		for _, x := range []api.Inode{file(), link(), New(5, api.File, "")} {
			x.Entries = l
			if Right(x) != (len(l) == 0) {
				t.Errorf("the kind %d of %v: Right %v", x.Kind, l, Right(x))
			}
		}
	}
}

func TestRightOfTargetsOfOtherKinds(t *testing.T) {
	for _, x := range []api.Inode{file(), dir(), New(5, api.File, ""), New(5, api.Dir, "")} {
		for _, target := range []string{"a", "a/b", "\x00", long(200), long(201)} {
			x.Target = target
			if Right(x) {
				t.Errorf("the kind %d to %q is Right", x.Kind, target)
			}
		}
	}
}

func TestStat(t *testing.T) {
	for _, r := range []struct {
		x    api.Inode
		want api.Stat
	}{
		{file(), api.Stat{No: 5, Kind: api.File, Links: 1, Size: 20, Pages: 3}},
		{dir(), api.Stat{No: 6, Kind: api.Dir, Links: 2, Size: 2}},
		{link(), api.Stat{No: 7, Kind: api.Link, Links: 1, Size: 3}},
		{New(2, api.File, "x"), api.Stat{No: 2, Kind: api.File, Links: 1}},
		{New(2, api.Dir, "x"), api.Stat{No: 2, Kind: api.Dir, Links: 2}},
		{New(2, api.Link, "x"), api.Stat{No: 2, Kind: api.Link, Links: 1, Size: 1}},
		{api.Inode{No: 9, Kind: api.Dir, Links: 7, Entries: many(100)}, api.Stat{No: 9, Kind: api.Dir, Links: 7, Size: 100}},
		{api.Inode{No: 9, Kind: api.File, Links: 0, Size: 16_384, Runs: []api.Run{{From: 0, At: 1, Count: 64}}}, api.Stat{No: 9, Kind: api.File, Size: 16_384, Pages: 64}},
		{api.Inode{No: 9, Kind: api.File, Links: 1, Size: 16_384}, api.Stat{No: 9, Kind: api.File, Links: 1, Size: 16_384}},
		{api.Inode{}, api.Stat{}},
	} {
		if s := Stat(r.x); s != r.want {
			t.Errorf("%+v: %+v; want %+v", r.x, s, r.want)
		}
	}
}

// TestStatOfWhatMayNotBe: what is there is told, whether it is Right or not.
func TestStatOfWhatMayNotBe(t *testing.T) {
	for _, r := range []struct {
		x    api.Inode
		want api.Stat
	}{
		{api.Inode{No: -3, Kind: api.File, Links: -4, Size: -5}, api.Stat{No: -3, Kind: api.File, Links: -4, Size: -5}},
		{api.Inode{No: math.MaxInt, Kind: math.MinInt, Links: math.MaxInt, Size: math.MinInt}, api.Stat{No: math.MaxInt, Kind: math.MinInt, Links: math.MaxInt, Size: math.MinInt}},
		{api.Inode{Kind: api.File, Size: 9, Runs: []api.Run{{From: 60, At: 0, Count: 5}}}, api.Stat{Kind: api.File, Size: 9}},
		{api.Inode{Kind: api.File, Size: 9, Entries: many(2)}, api.Stat{Kind: api.File, Size: 9}},
		{api.Inode{Kind: api.Dir, Size: 9}, api.Stat{Kind: api.Dir}},
		{api.Inode{Kind: api.Dir, Size: 9, Entries: many(101)}, api.Stat{Kind: api.Dir, Size: 101}},
		{api.Inode{Kind: api.Dir, Entries: []api.Entry{{}, {}}}, api.Stat{Kind: api.Dir, Size: 2}},
		{api.Inode{Kind: api.Dir, Runs: file().Runs}, api.Stat{Kind: api.Dir, Pages: 3}},
		{api.Inode{Kind: api.Link, Size: 9, Target: "a", Entries: many(2)}, api.Stat{Kind: api.Link, Size: 9}},
		{api.Inode{Kind: api.Link, Runs: file().Runs}, api.Stat{Kind: api.Link, Pages: 3}},
		{api.Inode{Kind: 4, Size: 9, Entries: many(2), Runs: file().Runs}, api.Stat{Kind: 4, Size: 9, Pages: 3}},
	} {
		if s := Stat(r.x); s != r.want {
			t.Errorf("%+v: %+v; want %+v", r.x, s, r.want)
		}
	}
}

func TestWhatIsHandedInStays(t *testing.T) {
	room := api.Inode{No: 5, Kind: api.File, Links: 1, Size: 7, Target: "a", Entries: many(4), Runs: []api.Run{{From: 0, At: 5, Count: 1}, {From: 2, At: 9, Count: 2}, {From: 9, At: 2, Count: 1}}}
	kept := copied(room)
	for _, kind := range []int{api.File, api.Dir, api.Link, 0} {
		for n := range 3 {
			x := room
			x.Kind, x.Entries, x.Runs = kind, room.Entries[:n], room.Runs[:n]
			was := copied(x)
			Right(x)
			Stat(x)
			if !reflect.DeepEqual(room, kept) || !same(x, was) {
				t.Errorf("%+v, of %+v; was %+v, of %+v", x, room, was, kept)
			}
		}
	}
	behind := file()
	behind.Entries, behind.Runs = many(3)[:0], append(behind.Runs, api.Run{})[:2]
	if !Right(behind) || Stat(behind).Pages != 3 {
		t.Error("the room behind the end plays a part")
	}
}
