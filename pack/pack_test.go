package pack

import (
	"bytes"
	"encoding/hex"
	"math"
	"reflect"
	"slices"
	"strings"
	"testing"

	"garret/api"
)

// packed is the bytes that a text of hexadecimal digits, with spaces between them, stands for.
func packed(t *testing.T, s string) []byte {
	t.Helper()
	b, err := hex.DecodeString(strings.ReplaceAll(s, " ", ""))
	if err != nil {
		t.Fatal(err)
	}
	return b
}

func file() api.Inode {
	return api.Inode{No: 5, Kind: api.File, Links: 1, Size: 20, Runs: []api.Run{{From: 0, At: 258, Count: 2}, {From: 4, At: 3, Count: 1}}}
}

func dir() api.Inode {
	return api.Inode{No: 6, Kind: api.Dir, Links: 2, Entries: []api.Entry{{Name: "a", No: 7}, {Name: "bc", No: 258}}}
}

func link() api.Inode {
	return api.Inode{No: 7, Kind: api.Link, Links: 1, Size: 3, Target: "a/b"}
}

// odd is an inode that may not be, with all that one may have in it.
func odd() api.Inode {
	return api.Inode{
		No: math.MinInt, Kind: -1, Links: math.MaxInt, Size: -258, Target: "\x00\u00e9\xff/",
		Entries: []api.Entry{{Name: "b", No: -7}, {Name: "", No: 0}, {Name: "b", No: math.MaxInt}},
		Runs:    []api.Run{{From: -1, At: math.MinInt, Count: math.MaxInt}, {}, {From: 1 << 32, At: 1 << 31, Count: 255}},
	}
}

// deeds is some of each kind.
func deeds() []api.Deed {
	return []api.Deed{
		{Kind: api.DoNext, No: 8},
		{Kind: api.DoPut, Inode: file()},
		{Kind: api.DoPut, Inode: dir()},
		{Kind: api.DoDrop, No: 258},
		{Kind: api.DoPut, Inode: link()},
		{Kind: api.DoBad, No: 3},
		{Kind: api.DoPut, Inode: odd()},
		{Kind: api.DoPut},
		{Kind: api.DoBad, No: math.MinInt},
		{Kind: api.DoDrop, No: math.MaxInt},
		{Kind: api.DoNext, No: -1},
		{Kind: api.DoNext},
	}
}

// sameDeeds tells whether two lists are the same; nil and an empty list are.
func sameDeeds(k, l []api.Deed) bool {
	return slices.EqualFunc(k, l, func(x, y api.Deed) bool {
		i, j := x.Inode, y.Inode
		return x.Kind == y.Kind && x.No == y.No && i.No == j.No && i.Kind == j.Kind && i.Links == j.Links && i.Size == j.Size &&
			i.Target == j.Target && slices.Equal(i.Entries, j.Entries) && slices.Equal(i.Runs, j.Runs)
	})
}

const (
	zero = "0000000000000000"
	none = "00000000"
)

func TestDeedsLaysBytes(t *testing.T) {
	for _, r := range []struct {
		name string
		d    api.Deed
		want string
	}{
		{"DoNext", api.Deed{Kind: api.DoNext, No: 258}, "01 0201000000000000"},
		{"DoDrop", api.Deed{Kind: api.DoDrop, No: 1}, "03 0100000000000000"},
		{"DoBad", api.Deed{Kind: api.DoBad, No: 63}, "04 3f00000000000000"},
		{"of 0", api.Deed{Kind: api.DoNext}, "01" + zero},
		{"below 0", api.Deed{Kind: api.DoDrop, No: -2}, "03 feffffffffffffff"},
		{"least", api.Deed{Kind: api.DoBad, No: math.MinInt}, "04 0000000000000080"},
		{"greatest", api.Deed{Kind: api.DoNext, No: math.MaxInt}, "01 ffffffffffffff7f"},
		{"DoPut of nothing", api.Deed{Kind: api.DoPut}, "02" + zero + zero + zero + zero + none + none + none},
		{"DoPut of a File", api.Deed{Kind: api.DoPut, Inode: file()}, "02 0500000000000000 0100000000000000 0100000000000000 1400000000000000" + none + none +
			"02000000 0000000000000000 0201000000000000 0200000000000000 0400000000000000 0300000000000000 0100000000000000"},
		{"DoPut of a Dir", api.Deed{Kind: api.DoPut, Inode: dir()}, "02 0600000000000000 0200000000000000 0200000000000000" + zero + none +
			"02000000 01000000 61 0700000000000000 02000000 6263 0201000000000000" + none},
		{"DoPut of a Link", api.Deed{Kind: api.DoPut, Inode: link()}, "02 0700000000000000 0300000000000000 0100000000000000 0300000000000000 03000000 612f62" + none + none},
		{"DoPut of what may not be", api.Deed{Kind: api.DoPut, Inode: odd()}, "02 0000000000000080 ffffffffffffffff ffffffffffffff7f fefeffffffffffff 05000000 00c3a9ff2f" +
			"03000000 01000000 62 f9ffffffffffffff 00000000" + zero + "01000000 62 ffffffffffffff7f" +
			"03000000 ffffffffffffffff 0000000000000080 ffffffffffffff7f" + zero + zero + zero + "0000000001000000 0000008000000000 ff00000000000000"},
		{"no inode but of DoPut", api.Deed{Kind: api.DoBad, No: 1, Inode: dir()}, "04 0100000000000000"},
		{"no number of DoPut", api.Deed{Kind: api.DoPut, No: 99, Inode: link()}, "02 0700000000000000 0300000000000000 0100000000000000 0300000000000000 03000000 612f62" + none + none},
	} {
		if got, want := Deeds([]api.Deed{r.d}), packed(t, r.want); !bytes.Equal(got, want) {
			t.Errorf("%s: %x; want %x", r.name, got, want)
		}
	}
}

// TestDeedsOfNoKind: of what is no Kind the lowest byte is there, and nothing else, even if that byte is one of a Kind.
func TestDeedsOfNoKind(t *testing.T) {
	for kind, want := range map[int]byte{
		0: 0, 5: 5, 255: 255, 256: 0, 257: 1, 258: 2, 259: 3, 260: 4, 1 << 32: 0, 1<<32 + 1: 1, 1<<56 + 2: 2,
		-1: 255, -252: 4, -254: 2, -255: 1, -256: 0, math.MinInt: 0, math.MinInt + 3: 3, math.MaxInt: 255,
	} {
		if b := Deeds([]api.Deed{{Kind: kind, No: 7, Inode: dir()}}); !bytes.Equal(b, []byte{want}) {
			t.Errorf("the kind %d: %x; want %02x", kind, b, want)
		}
	}
}

func TestDeedsOfNothing(t *testing.T) {
	for _, l := range [][]api.Deed{nil, {}} {
		if b := Deeds(l); len(b) > 0 {
			t.Errorf("Deeds: %x", b)
		}
	}
	for _, b := range [][]byte{nil, {}} {
		if l, e := Parse(b); len(l) > 0 || e != api.OK {
			t.Errorf("Parse: %v, %d", l, e)
		}
	}
}

func TestDeedsStandOneBehindTheOther(t *testing.T) {
	l := slices.Insert(deeds(), 3, api.Deed{Kind: 9, No: 1})
	var want []byte
	for _, d := range l {
		want = append(want, Deeds([]api.Deed{d})...)
	}
	if b := Deeds(l); !bytes.Equal(b, want) {
		t.Errorf("%x; want %x", b, want)
	}
}

func TestWhatIsPackedIsParsed(t *testing.T) {
	all := deeds()
	for from := range all {
		for to := from; to <= len(all); to++ {
			if l, e := Parse(Deeds(all[from:to])); !sameDeeds(l, all[from:to]) || e != api.OK {
				t.Fatalf("%d to %d: %+v, %d", from, to, l, e)
			}
		}
	}
}

// TestWhatIsNotPackedIsZero: what a deed of its kind has nothing of is not there when it is parsed.
func TestWhatIsNotPackedIsZero(t *testing.T) {
	full := func(kind int) api.Deed { return api.Deed{Kind: kind, No: 9, Inode: odd()} }
	for _, r := range []struct{ d, want api.Deed }{
		{full(api.DoNext), api.Deed{Kind: api.DoNext, No: 9}},
		{full(api.DoPut), api.Deed{Kind: api.DoPut, Inode: odd()}},
		{full(api.DoDrop), api.Deed{Kind: api.DoDrop, No: 9}},
		{full(api.DoBad), api.Deed{Kind: api.DoBad, No: 9}},
	} {
		if l, e := Parse(Deeds([]api.Deed{r.d})); !sameDeeds(l, []api.Deed{r.want}) || e != api.OK {
			t.Errorf("%+v, %d; want %+v", l, e, r.want)
		}
	}
}

// TestParseOfWhatIsCut: the deeds that are whole, if nothing of another one is there; else ErrShort, and none of them.
func TestParseOfWhatIsCut(t *testing.T) {
	all := deeds()
	b := Deeds(all)
	ends := map[int]int{0: 0}
	for i := range all {
		ends[len(Deeds(all[:i+1]))] = i + 1
	}
	for n := range len(b) + 1 {
		l, e := Parse(b[:n]) // what was cut away stands in the room behind the end
		k, whole := ends[n]
		if whole && (e != api.OK || !sameDeeds(l, all[:k])) {
			t.Errorf("%d bytes: %+v, %d; want %d deeds", n, l, e, k)
		}
		if !whole && (e != api.ErrShort || l != nil) {
			t.Errorf("%d bytes: %+v, %d; want ErrShort", n, l, e)
		}
	}
}

func TestParseOfNoKind(t *testing.T) {
	whole := Deeds(deeds())
	for k := range 256 {
		if k >= api.DoNext && k <= api.DoBad {
			continue
		}
		for _, b := range [][]byte{
			{byte(k)},
			{byte(k), byte(k)},
			append([]byte{byte(k)}, whole...),
			append(slices.Clone(whole), byte(k)),
			slices.Concat(whole, []byte{byte(k)}, whole),
		} {
			if l, e := Parse(b); l != nil || e != api.ErrKind {
				t.Errorf("the byte %d: %v, %d", k, l, e)
			}
		}
	}
}

// TestParseTellsWhatIsWrongFirst: behind a byte that is no Kind nothing is known to be there, or not to be.
func TestParseTellsWhatIsWrongFirst(t *testing.T) {
	next := Deeds([]api.Deed{{Kind: api.DoNext, No: 5}})
	for _, r := range []struct {
		name string
		b    []byte
		e    api.Errno
	}{
		{"a kind that is none, and too few bytes", []byte{9, api.DoNext}, api.ErrKind},
		{"the same behind a deed", slices.Concat(next, []byte{0, api.DoPut, 1}), api.ErrKind},
		{"too few bytes, of none of which the kind is asked", []byte{api.DoNext, 9, 9, 9}, api.ErrShort},
		{"the same behind a deed", slices.Concat(next, []byte{api.DoPut, 9, 9, 9}), api.ErrShort},
		{"bytes within a deed are no kinds", slices.Concat([]byte{api.DoBad}, bytes.Repeat([]byte{200}, 8)), api.OK},
	} {
		if l, e := Parse(r.b); e != r.e || e != api.OK && l != nil {
			t.Errorf("%s: %v, %d; want %d", r.name, l, e, r.e)
		}
	}
}

// TestParseOfLengthsThatAreNotThere: it ends, soon, whatever lengths are told.
func TestParseOfLengthsThatAreNotThere(t *testing.T) {
	head := "02" + zero + zero + zero + zero
	for _, r := range []struct{ name, b string }{
		{"a target of all lengths", head + "ffffffff"},
		{"a target of one more", head + "02000000 61"},
		{"a target that takes the counts", head + "08000000 00000000 00000000"},
		{"entries of all counts", head + none + "ffffffff"},
		{"entries of all counts, with some there", head + none + "ffffffff" + strings.Repeat(none+zero, 500)},
		{"one entry more", head + none + "02000000" + none + zero},
		{"an entry's name of all lengths", head + none + "01000000 ffffffff" + zero},
		{"an entry without its number", head + none + "01000000 01000000 61"},
		{"runs of all counts", head + none + none + "ffffffff"},
		{"runs of all counts, with some there", head + none + none + "ffffffff" + strings.Repeat(zero+zero+zero, 500)},
		{"one run more", head + none + none + "02000000" + zero + zero + zero},
		{"a run without its count", head + none + none + "01000000" + zero + zero},
		{"a count's highest bit", head + none + none + "00000080"},
	} {
		if l, e := Parse(packed(t, r.b)); l != nil || e != api.ErrShort {
			t.Errorf("%s: %v, %d", r.name, l, e)
		}
	}
}

// TestWhatIsParsedIsPacked: other bytes are refused, or they are those of the deeds that are told.
func TestWhatIsParsedIsPacked(t *testing.T) {
	whole := Deeds(deeds())
	for at := range whole {
		for _, mask := range []byte{1, 2, 4, 7, 128, 255} {
			b := slices.Clone(whole)
			b[at] ^= mask
			l, e := Parse(b)
			switch e {
			case api.OK:
				if !bytes.Equal(Deeds(l), b) {
					t.Errorf("byte %d with %d turned: %x; want %x", at, mask, Deeds(l), b)
				}
			case api.ErrShort, api.ErrKind:
				if l != nil {
					t.Errorf("byte %d with %d turned: %v, %d", at, mask, l, e)
				}
			default:
				t.Errorf("byte %d with %d turned: the error %d", at, mask, e)
			}
		}
	}
}

func TestManyDeeds(t *testing.T) {
	x := odd()
	x.Target = strings.Repeat("t", 70_000)
	x.Entries = slices.Repeat(dir().Entries, 2_000)
	x.Runs = slices.Repeat(file().Runs, 2_000)
	l := slices.Repeat(append(deeds(), api.Deed{Kind: api.DoPut, Inode: x}), 20)
	if k, e := Parse(Deeds(l)); !sameDeeds(k, l) || e != api.OK {
		t.Errorf("%d deeds, %d; want %d", len(k), e, len(l))
	}
}

func TestWhatIsHandedInStays(t *testing.T) {
	l := append(deeds(), api.Deed{Kind: 9, No: 1}, api.Deed{Kind: 258, Inode: odd()})
	kept := append(deeds(), api.Deed{Kind: 9, No: 1}, api.Deed{Kind: 258, Inode: odd()})
	first := Deeds(l[:2])
	Deeds(l)
	if !reflect.DeepEqual(l, kept) {
		t.Errorf("Deeds turned what was handed in: %+v", l)
	}
	if !bytes.Equal(first, Deeds(l[:2])) {
		t.Error("what was answered was turned later")
	}
	b := Deeds(deeds())
	was := slices.Clone(b)
	for n := range len(b) + 1 {
		Parse(b[:n])
	}
	if !bytes.Equal(b, was) {
		t.Error("Parse turned what was handed in")
	}
}

// TestAnswersAreNewMemory: who writes into what was handed in, or out, turns nothing else.
func TestAnswersAreNewMemory(t *testing.T) {
	in := deeds()
	b := Deeds(in)
	for _, d := range in {
		clear(d.Inode.Entries)
		clear(d.Inode.Runs)
	}
	if !bytes.Equal(b, Deeds(deeds())) {
		t.Error("the bytes were turned with the deeds")
	}
	l, _ := Parse(b)
	again, _ := Parse(b)
	clear(b)
	if !sameDeeds(l, deeds()) {
		t.Error("the deeds were turned with their bytes")
	}
	for i := range l {
		x := &l[i].Inode
		clear(x.Entries)
		clear(x.Runs)
		x.Entries = append(x.Entries, api.Entry{Name: "z", No: 99})
		x.Runs = append(x.Runs, api.Run{From: 9, At: 9, Count: 9})
		rest := deeds()[i+1:]
		if !sameDeeds(l[i+1:], rest) {
			t.Fatalf("deed %d shares memory with one behind it", i)
		}
	}
	if !sameDeeds(again, deeds()) {
		t.Error("two answers share memory")
	}
}
