package entries

import (
	"cmp"
	"fmt"
	"math"
	"math/rand"
	"slices"
	"strings"
	"testing"

	"garret/api"
)

// entry is a name, and its number.
func entry(name string, no int) api.Entry {
	return api.Entry{Name: name, No: no}
}

// list is entries, one behind the other, with room behind their end.
func list(l ...api.Entry) []api.Entry {
	return append(make([]api.Entry, 0, len(l)+3), l...)
}

// many is n entries, rising: their names end with odd numbers.
func many(n int) []api.Entry {
	var l []api.Entry
	for i := range n {
		l = append(l, entry(fmt.Sprintf("n%05d", 2*i+1), i+1))
	}
	return l
}

// long is a name of n bytes.
func long(n int) string {
	return strings.Repeat("x", n)
}

// noNames are texts that no entry may have as its name.
func noNames() []string {
	return []string{"", ".", "..", "/", "a/b", "/a", "a/", "\x00", "a\x00", "\x00a", long(33), long(34), long(400)}
}

// mixed is a list that no directory has: not rising, a name twice, and names and numbers that may not be.
func mixed() []api.Entry {
	return list(entry("b", 2), entry("d", 4), entry("", 7), entry("b", 9), entry("..", 0), entry("a/b", -5), entry("a", 1), entry("a", 3), entry("z", 0))
}

func TestRightOfWhatADirectoryHas(t *testing.T) {
	for _, l := range [][]api.Entry{
		nil,
		{},
		list(entry("a", 1)),
		list(entry("a", math.MaxInt)),
		list(entry(long(32), 1)),
		list(entry("a", 1), entry("b", 1)),
		list(entry("a", 9), entry("b", 1)),
		list(entry("a", 1), entry("aa", 1), entry("ab", 1), entry("b", 1)),
		list(entry("B", 1), entry("a", 1)),
		list(entry("a", 1), entry("\x7f", 1), entry("\x80", 1), entry("\xff", 1)),
		list(entry("\x01", 1), entry(" ", 1), entry("...", 1), entry("0", 1)),
		list(entry("10", 1), entry("9", 1)),
		many(99),
		many(100),
	} {
		if !Right(l) {
			t.Errorf("%v is not Right", l)
		}
	}
}

func TestRightOfWhatNoDirectoryHas(t *testing.T) {
	wrong := [][]api.Entry{
		list(entry("a", 0)),
		list(entry("a", -1)),
		list(entry("a", math.MinInt)),
		list(entry("a", 1), entry("b", 0)),
		list(entry("a", 0), entry("b", 1)),
		list(entry("a", 1), entry("b", -1), entry("c", 1)),
		list(entry("b", 1), entry("a", 2)),
		list(entry("a", 1), entry("a", 1)),
		list(entry("a", 1), entry("a", 2)),
		list(entry("a", 1), entry("b", 1), entry("a", 1)),
		list(entry("a", 1), entry("b", 1), entry("b", 1)),
		list(entry("aa", 1), entry("a", 1)),
		list(entry("a", 1), entry("B", 1)),
		list(entry("9", 1), entry("10", 1)),
		list(entry("\x80", 1), entry("\x7f", 1)),
		many(101),
		many(102),
		many(1000),
		mixed(),
	}
	for _, s := range noNames() {
		wrong = append(wrong, list(entry(s, 1)))
		three := list(entry("!", 1), entry(s, 1), entry("~", 1))
		slices.SortFunc(three, func(x, y api.Entry) int { return cmp.Compare(x.Name, y.Name) })
		wrong = append(wrong, three)
	}
	for _, l := range wrong {
		if Right(l) {
			t.Errorf("%v is Right", l)
		}
	}
}

func TestFind(t *testing.T) {
	for _, r := range []struct {
		l    []api.Entry
		name string
		no   int
		ok   bool
	}{
		{nil, "a", 0, false},
		{nil, "", 0, false},
		{list(entry("a", 1)), "a", 1, true},
		{list(entry("a", 1)), "b", 0, false},
		{list(entry("a", 1)), "A", 0, false},
		{list(entry("a", 1)), "aa", 0, false},
		{list(entry("aa", 1)), "a", 0, false},
		{list(entry("a", 1)), "", 0, false},
		{list(entry("a", 1), entry("b", 5), entry("c", 3)), "a", 1, true},
		{list(entry("a", 1), entry("b", 5), entry("c", 3)), "b", 5, true},
		{list(entry("a", 1), entry("b", 5), entry("c", 3)), "c", 3, true},
		{list(entry("a", 1), entry("c", 3)), "b", 0, false},
		{mixed(), "b", 2, true},
		{mixed(), "a", 1, true},
		{mixed(), "d", 4, true},
		{mixed(), "", 7, true},
		{mixed(), "a/b", -5, true},
		{mixed(), "..", 0, true},
		{mixed(), "z", 0, true},
		{mixed(), "c", 0, false},
		{many(1000), "n01999", 1000, true},
		{many(1000), "n01998", 0, false},
	} {
		if no, ok := Find(r.l, r.name); no != r.no || ok != r.ok {
			t.Errorf("%q of %v: %d, %v; want %d, %v", r.name, r.l, no, ok, r.no, r.ok)
		}
	}
}

func TestAdd(t *testing.T) {
	l := list(entry("b", 2), entry("d", 4))
	for _, r := range []struct {
		name string
		l    []api.Entry
		e    api.Entry
		want []api.Entry
	}{
		{"to nothing", nil, entry("a", 1), list(entry("a", 1))},
		{"ahead of all", l, entry("a", 1), list(entry("a", 1), l[0], l[1])},
		{"between", l, entry("c", 1), list(l[0], entry("c", 1), l[1])},
		{"behind all", l, entry("e", 1), list(l[0], l[1], entry("e", 1))},
		{"what another one begins with", list(entry("aa", 1)), entry("a", 2), list(entry("a", 2), entry("aa", 1))},
		{"what begins with another one", list(entry("a", 1)), entry("aa", 2), list(entry("a", 1), entry("aa", 2))},
		{"by bytes, not letters", list(entry("a", 1)), entry("B", 2), list(entry("B", 2), entry("a", 1))},
		{"by bytes, not numbers", list(entry("9", 1)), entry("10", 2), list(entry("10", 2), entry("9", 1))},
		{"a byte above 127", list(entry("\x7f", 1), entry("\xff", 3)), entry("\x80", 2), list(entry("\x7f", 1), entry("\x80", 2), entry("\xff", 3))},
		{"a number that is there", l, entry("c", 4), list(l[0], entry("c", 4), l[1])},
		{"the greatest number", nil, entry("a", math.MaxInt), list(entry("a", math.MaxInt))},
		{"the longest name", nil, entry(long(32), 1), list(entry(long(32), 1))},
		{"the hundredth, ahead", many(99), entry("a", 1), append(list(entry("a", 1)), many(99)...)},
		{"the hundredth, behind", many(99), entry("z", 1), append(many(99), entry("z", 1))},
		{"ahead of the first one above it", list(entry("b", 1), entry("d", 2), entry("a", 3), entry("e", 4)), entry("c", 9), list(entry("b", 1), entry("c", 9), entry("d", 2), entry("a", 3), entry("e", 4))},
		{"behind what does not rise", list(entry("c", 1), entry("b", 2), entry("a", 3)), entry("d", 9), list(entry("c", 1), entry("b", 2), entry("a", 3), entry("d", 9))},
		{"ahead of what does not rise", list(entry("c", 1), entry("a", 2)), entry("b", 9), list(entry("b", 9), entry("c", 1), entry("a", 2))},
		{"to one name twice", list(entry("b", 1), entry("b", 2)), entry("a", 9), list(entry("a", 9), entry("b", 1), entry("b", 2))},
	} {
		if got, e := Add(r.l, r.e); e != api.OK || !slices.Equal(got, r.want) {
			t.Errorf("%s: %v, %d; want %v", r.name, got, e, r.want)
		}
	}
}

func TestAddOfWhatMayNotBe(t *testing.T) {
	l := list(entry("b", 2), entry("d", 4))
	for _, r := range []struct {
		l    []api.Entry
		e    api.Entry
		want api.Errno
	}{
		{nil, entry("a", 0), api.ErrArg},
		{nil, entry("a", -1), api.ErrArg},
		{nil, entry("a", math.MinInt), api.ErrArg},
		{l, entry("b", 0), api.ErrArg},
		{many(100), entry("a", 0), api.ErrArg},
		{many(100), entry("n00001", 0), api.ErrArg},
		{l, entry("b", 2), api.ErrThere},
		{l, entry("b", 3), api.ErrThere},
		{l, entry("d", 3), api.ErrThere},
		{many(100), entry("n00001", 3), api.ErrThere},
		{many(100), entry("n00199", 3), api.ErrThere},
		{many(1000), entry("n01999", 3), api.ErrThere},
		{list(entry("b", 1), entry("a", 2)), entry("a", 3), api.ErrThere},
		{many(100), entry("a", 3), api.ErrBig},
		{many(100), entry("z", 3), api.ErrBig},
		{many(101), entry("z", 3), api.ErrBig},
		{many(1000), entry("z", 3), api.ErrBig},
	} {
		if got, e := Add(r.l, r.e); e != r.want || len(got) != 0 {
			t.Errorf("%v to %d: %v, %d; want %d", r.e, len(r.l), got, e, r.want)
		}
	}
	for _, s := range noNames() {
		for _, l := range [][]api.Entry{nil, l, many(100), list(entry(s, 1))} {
			for _, no := range []int{1, 0, -1} {
				if got, e := Add(l, entry(s, no)); e != api.ErrName || len(got) != 0 {
					t.Errorf("the name %q, and %d: %v, %d", s, no, got, e)
				}
			}
		}
	}
}

func TestRemove(t *testing.T) {
	l := list(entry("a", 1), entry("b", 5), entry("c", 3))
	m := mixed()
	for _, r := range []struct {
		l    []api.Entry
		name string
		want []api.Entry
		e    api.Errno
	}{
		{nil, "a", nil, api.ErrNone},
		{nil, "", nil, api.ErrNone},
		{l[:1], "a", nil, api.OK},
		{l, "a", list(l[1], l[2]), api.OK},
		{l, "b", list(l[0], l[2]), api.OK},
		{l, "c", list(l[0], l[1]), api.OK},
		{l, "d", nil, api.ErrNone},
		{l, "A", nil, api.ErrNone},
		{l, "aa", nil, api.ErrNone},
		{l, "", nil, api.ErrNone},
		{l, "..", nil, api.ErrNone},
		{m, "b", m[1:], api.OK},
		{m, "a", slices.Concat(m[:6], m[7:]), api.OK},
		{m, "", slices.Concat(m[:2], m[3:]), api.OK},
		{m, "..", slices.Concat(m[:4], m[5:]), api.OK},
		{m, "z", m[:8], api.OK},
		{m, "c", nil, api.ErrNone},
		{many(1000), "n01999", many(999), api.OK},
		{many(1000), "n02001", nil, api.ErrNone},
	} {
		if got, e := Remove(r.l, r.name); e != r.e || !slices.Equal(got, r.want) {
			t.Errorf("%q of %v: %v, %d; want %v, %d", r.name, r.l, got, e, r.want, r.e)
		}
	}
}

// sorted are the entries of m, rising.
func sorted(m map[string]int) []api.Entry {
	var l []api.Entry
	for s, no := range m {
		l = append(l, entry(s, no))
	}
	slices.SortFunc(l, func(x, y api.Entry) int { return cmp.Compare(x.Name, y.Name) })
	return l
}

// TestWhatIsAddedIsFound: lists that were led to by calls are Right, and have what was added and not removed.
func TestWhatIsAddedIsFound(t *testing.T) {
	r := rand.New(rand.NewSource(11))
	kept := map[string]int{}
	var l []api.Entry
	full := 0
	for i := range 20_000 {
		s := fmt.Sprint(r.Intn(150))
		had, is := kept[s]
		if no, ok := Find(l, s); no != had || ok != is {
			t.Fatalf("%q of %v: %d, %v; want %d, %v", s, l, no, ok, had, is)
		}
		var got []api.Entry
		var e, want api.Errno
		// Long times of growing and of shrinking, so that the list is full, and empty, now and then.
		if r.Intn(10) < 2+6*(i/2000%2) {
			got, e = Remove(l, s)
			if !is {
				want = api.ErrNone
			}
			delete(kept, s)
		} else {
			got, e = Add(l, entry(s, i+1))
			switch {
			case is:
				want = api.ErrThere
			case len(kept) == api.MaxEntries:
				want = api.ErrBig
				full++
			default:
				kept[s] = i + 1
			}
		}
		if e != want || e != api.OK && len(got) > 0 {
			t.Fatalf("%q and %v: %v, %d; want %d", s, l, got, e, want)
		}
		if e == api.OK {
			l = got
		}
		if !Right(l) || !slices.Equal(l, sorted(kept)) {
			t.Fatalf("%v; want %v", l, sorted(kept))
		}
	}
	if full == 0 {
		t.Error("it was never full")
	}
}

func TestWhatIsAddedAndRemovedAgain(t *testing.T) {
	l := many(99)
	for i := range 100 {
		s := fmt.Sprintf("n%05d", 2*i)
		with, e := Add(l, entry(s, 7))
		if no, ok := Find(with, s); e != api.OK || no != 7 || !ok || len(with) != 100 || with[i] != entry(s, 7) {
			t.Fatalf("%q: %d, %v, %d of %v", s, no, ok, e, with)
		}
		if back, e := Remove(with, s); e != api.OK || !slices.Equal(back, l) {
			t.Fatalf("%q: %v, %d", s, back, e)
		}
	}
}

func TestWhatIsHandedInStays(t *testing.T) {
	room := list(entry("b", 2), entry("d", 4), entry("f", 6), entry("h", 8), entry("j", 10))
	room = room[:cap(room)]
	kept := slices.Clone(room)
	for _, l := range [][]api.Entry{room[:0], room[:1], room[:3], room[:5]} {
		for _, s := range []string{"a", "b", "c", "d", "e", "f", "g", "z", ""} {
			if got, e := Add(l, entry(s, 1)); e == api.OK {
				clear(got[:cap(got)])
			}
			if got, e := Remove(l, s); e == api.OK {
				clear(got[:cap(got)])
			}
			Find(l, s)
			Right(l)
			if !slices.Equal(room, kept) {
				t.Fatalf("%q of %d: %v; was %v", s, len(l), room, kept)
			}
		}
	}
	l := room[:3]
	if no, ok := Find(l, "h"); no != 0 || ok {
		t.Errorf("the room behind the end is found: %d", no)
	}
	if got, e := Remove(l, "h"); len(got) != 0 || e != api.ErrNone {
		t.Errorf("the room behind the end is removed: %v, %d", got, e)
	}
}
