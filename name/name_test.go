package name

import (
	"math/rand"
	"slices"
	"strings"
	"testing"

	"garret/api"
)

// many is a name of n bytes.
func many(n int) string {
	return strings.Repeat("n", n)
}

// spans is a way of n bytes in all, in names that are Right.
func spans(n int) string {
	return strings.Repeat("/"+many(19), n/20+1)[:n]
}

func TestRightOfNames(t *testing.T) {
	for _, s := range []string{
		"a", "ab", "...", "....", ".a", "a.", "..a", "a..", ". ", " .", " ", "a b", "\\", "\n", "0", "-",
		"\x01", "\xff", "\xff\xfe\x80", "\u00e9", "\u2215", many(31), many(32), strings.Repeat(".", 32), strings.Repeat("\u00e9", 16),
	} {
		if !Right(s) {
			t.Errorf("%q is not Right", s)
		}
	}
}

func TestRightOfNoNames(t *testing.T) {
	for _, s := range []string{
		"", ".", "..", "/", "//", "a/", "/a", "a/b", "./", "../", "\x00", "a\x00", "\x00a", "a\x00b",
		many(33), many(34), many(1000), strings.Repeat(".", 33), strings.Repeat("\u00e9", 16) + "x", strings.Repeat("\u00e9", 17),
		many(31) + "/", many(31) + "\x00", "/" + many(31), "\x00" + many(31),
	} {
		if Right(s) {
			t.Errorf("%q is Right", s)
		}
	}
}

func TestRightOfEachByte(t *testing.T) {
	for b := range 256 {
		one := string([]byte{byte(b)})
		want := b != 0 && b != '/'
		for _, s := range []string{"x" + one, one + "x", "x" + one + "x", many(31) + one} {
			if Right(s) != want {
				t.Errorf("%q: %v", s, !want)
			}
		}
		if Right(one) != (want && b != '.') {
			t.Errorf("%q alone: %v", one, Right(one))
		}
	}
}

// way is what a text is split into.
type way struct {
	text  string
	names []string
	root  bool
}

func ways() []way {
	return []way{
		{"/a//b", []string{"a", "b"}, true},
		{"/", nil, true},
		{"//", nil, true},
		{"/.", nil, true},
		{"/./", nil, true},
		{"//.//./", nil, true},
		{".", nil, false},
		{"./", nil, false},
		{"././.", nil, false},
		{"..", []string{".."}, false},
		{"../", []string{".."}, false},
		{"/..", []string{".."}, true},
		{"/../..", []string{"..", ".."}, true},
		{"../a/../b", []string{"..", "a", "..", "b"}, false},
		{"a", []string{"a"}, false},
		{"/a", []string{"a"}, true},
		{"///a", []string{"a"}, true},
		{"a/", []string{"a"}, false},
		{"/a///", []string{"a"}, true},
		{"a/b", []string{"a", "b"}, false},
		{"b/a/a", []string{"b", "a", "a"}, false},
		{"./a", []string{"a"}, false},
		{"./..", []string{".."}, false},
		{"/./a/./b/.", []string{"a", "b"}, true},
		{"...", []string{"..."}, false},
		{"/.../.a/a./..a", []string{"...", ".a", "a.", "..a"}, true},
		{"/ /\n", []string{" ", "\n"}, true},
		{"\xff/\xfe", []string{"\xff", "\xfe"}, false},
		{"\\/a\\b", []string{"\\", "a\\b"}, false},
		{many(32), []string{many(32)}, false},
		{"/" + many(32) + "/" + many(31), []string{many(32), many(31)}, true},
		{strings.Repeat("/", 400), nil, true},
		{strings.Repeat(".", 32), []string{strings.Repeat(".", 32)}, false},
	}
}

// twist are texts that are no ways.
func twist() []string {
	return []string{
		"",
		"\x00", "/\x00", "a\x00", "/a\x00b", "/a/\x00/b", "/a/b\x00", "//\x00//",
		many(33), "/" + many(33), many(33) + "/", "/a/" + many(33) + "/b", "../" + many(33), many(33) + "/..",
		strings.Repeat(".", 33), "/" + strings.Repeat(".", 33) + "/",
		strings.Repeat("/", 401), strings.Repeat("/", 1000), spans(401), strings.Repeat("./", 200) + ".", strings.Repeat("\u00e9/", 134),
		many(400), many(401),
	}
}

func TestParts(t *testing.T) {
	for _, w := range ways() {
		if got, root, e := Parts(w.text); !slices.Equal(got, w.names) || root != w.root || e != api.OK {
			t.Errorf("%q: %q, %v, %d; want %q, %v", w.text, got, root, e, w.names, w.root)
		}
	}
}

func TestSplit(t *testing.T) {
	for _, w := range ways() {
		want, wantErr := w.names, api.OK
		if !w.root {
			want, wantErr = nil, api.ErrName
		}
		if got, e := Split(w.text); !slices.Equal(got, want) || e != wantErr {
			t.Errorf("%q: %q, %d; want %q, %d", w.text, got, e, want, wantErr)
		}
	}
}

func TestWhatIsNoWay(t *testing.T) {
	for _, s := range twist() {
		if got, root, e := Parts(s); len(got) != 0 || root || e != api.ErrName {
			t.Errorf("Parts of %q: %q, %v, %d", s, got, root, e)
		}
		if got, e := Split(s); len(got) != 0 || e != api.ErrName {
			t.Errorf("Split of %q: %q, %d", s, got, e)
		}
	}
}

func TestLengthsOfWays(t *testing.T) {
	for _, r := range []struct {
		s     string
		count int
		e     api.Errno
	}{
		{spans(399), 20, api.OK},
		{spans(400), 20, api.OK},
		{spans(401), 0, api.ErrName},
		{strings.Repeat("/x", 200), 200, api.OK},
		{strings.Repeat("/x", 200) + "/", 0, api.ErrName},
		{strings.Repeat("/x", 200) + "x", 0, api.ErrName},
		{"/" + strings.Repeat("../", 133), 133, api.OK},
		{"//" + strings.Repeat("../", 133), 0, api.ErrName},
		{strings.Repeat("/.", 200), 0, api.OK},
	} {
		if got, _, e := Parts(r.s); len(got) != r.count || e != r.e {
			t.Errorf("Parts of %d bytes: %d names, %d; want %d, %d", len(r.s), len(got), e, r.count, r.e)
		}
		if got, e := Split(r.s); len(got) != r.count || e != r.e {
			t.Errorf("Split of %d bytes: %d names, %d; want %d, %d", len(r.s), len(got), e, r.count, r.e)
		}
	}
}

func TestEachByteOfAWay(t *testing.T) {
	for b := range 256 {
		one := string([]byte{byte(b)})
		want, wantErr := []string{"x" + one + "y"}, api.OK
		switch b {
		case 0:
			want, wantErr = nil, api.ErrName
		case '/':
			want = []string{"x", "y"}
		}
		if got, root, e := Parts("x" + one + "y"); !slices.Equal(got, want) || root || e != wantErr {
			t.Errorf("Parts with the byte %d: %q, %v, %d", b, got, root, e)
		}
		if got, e := Split("/x" + one + "y"); !slices.Equal(got, want) || e != wantErr {
			t.Errorf("Split with the byte %d: %q, %d", b, got, e)
		}
	}
}

// TestPartsJoined: what was split and is joined again is split as it was.
func TestPartsJoined(t *testing.T) {
	r := rand.New(rand.NewSource(10))
	bits := []string{"a", "b", ".", "..", "...", "/", "/", "/", "\x00", "\xff", many(32), many(33)}
	for range 20_000 {
		s := ""
		for range r.Intn(9) {
			s += bits[r.Intn(len(bits))]
		}
		names, root, e := Parts(s)
		if e != api.OK {
			if len(names) > 0 || root {
				t.Fatalf("%q: %q, %v beside %d", s, names, root, e)
			}
			continue
		}
		if root != (s[0] == '/') {
			t.Fatalf("%q: %v", s, root)
		}
		for _, n := range names {
			if n != ".." && !Right(n) {
				t.Fatalf("%q: the name %q", s, n)
			}
		}
		isSplitAs(t, "/"+strings.Join(names, "/"), names, true)
		if len(names) > 0 {
			isSplitAs(t, strings.Join(names, "/"), names, false)
		}
	}
}

// isSplitAs tells of a way that is not split into names.
func isSplitAs(t *testing.T, s string, names []string, root bool) {
	t.Helper()
	got, r, e := Parts(s)
	if !slices.Equal(got, names) || r != root || e != api.OK {
		t.Fatalf("%q: %q, %v, %d; want %q, %v", s, got, r, e, names, root)
	}
}

func TestAnswersAreNewMemory(t *testing.T) {
	for _, split := range []func() []string{
		func() []string { l, _, _ := Parts("/a/b/c"); return l },
		func() []string { l, _ := Split("/a/b/c"); return l },
	} {
		clear(split())
		if l := split(); !slices.Equal(l, []string{"a", "b", "c"}) {
			t.Errorf("%q, behind one that was written into", l)
		}
	}
}
