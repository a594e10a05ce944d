package runs

import (
	"math"
	"math/rand"
	"slices"
	"testing"

	"garret/api"
)

const limit = 1<<31 - 1

// run is that many pages.
func run(from, at, count int) api.Run {
	return api.Run{From: from, At: at, Count: count}
}

// list is runs, one behind the other, with room behind their end.
func list(l ...api.Run) []api.Run {
	return append(make([]api.Run, 0, len(l)+2), l...)
}

// twist are runs that are not Right, each for one reason.
func twist() [][]api.Run {
	return [][]api.Run{
		list(run(-1, 5, 2)),
		list(run(math.MinInt, 5, 2)),
		list(run(0, 5, 0)),
		list(run(0, 5, -1)),
		list(run(0, 5, math.MinInt)),
		list(run(0, 5, 65)),
		list(run(0, 5, math.MaxInt)),
		list(run(60, 5, 5)),
		list(run(64, 5, 1)),
		list(run(math.MaxInt, 5, 1)),
		list(run(math.MaxInt, 5, math.MaxInt)),
		list(run(1<<62, 5, 1<<62)),
		list(run(0, -1, 1)),
		list(run(0, math.MinInt, 1)),
		list(run(0, limit+1, 1)),
		list(run(0, limit, 2)),
		list(run(0, limit-62, 64)),
		list(run(0, math.MaxInt, 1)),
		list(run(0, 5, 2), run(1, 9, 1)),
		list(run(0, 5, 2), run(0, 9, 1)),
		list(run(5, 5, 2), run(0, 9, 1)),
		list(run(0, 5, 2), run(2, 7, 1)),
		list(run(0, 5, 1), run(4, 9, 2), run(6, 11, 2)),
		list(run(0, 5, 1), run(2, 9, 0), run(4, 20, 1)),
		list(run(0, 5, 1), run(2, 9, 1), run(63, 20, 2)),
	}
}

// model is where each page of a file is, and -1 in holes.
type model [api.MaxFile]int

// holes is a file without a page.
func holes() model {
	var m model
	for i := range m {
		m[i] = -1
	}
	return m
}

// some is a file of which some pages are there, many of them one behind the other.
func some(r *rand.Rand) model {
	m := holes()
	at := r.Intn(1000)
	for i := range m {
		switch r.Intn(6) {
		case 0:
			at = r.Intn(1000)
		case 1:
			continue
		}
		m[i] = at
		at++
	}
	return m
}

// runs are the greatest ones that the pages of m make.
func (m model) runs() []api.Run {
	var l []api.Run
	for i := 0; i < len(m); {
		if m[i] < 0 {
			i++
			continue
		}
		n := 1
		for i+n < len(m) && m[i+n] == m[i]+n {
			n++
		}
		l = append(l, run(i, m[i], n))
		i += n
	}
	return l
}

// cut is m without the pages from n on.
func (m model) cut(n int) model {
	for i := n; i < len(m); i++ {
		m[i] = -1
	}
	return m
}

// places are those of m that are no holes.
func (m model) places() []int {
	return slices.DeleteFunc(slices.Clone(m[:]), func(at int) bool { return at < 0 })
}

func TestRightOfRunsOfAFile(t *testing.T) {
	for _, l := range [][]api.Run{
		nil,
		{},
		{run(0, 0, 1)},
		{run(0, 5, 64)},
		{run(63, 5, 1)},
		{run(32, 5, 32)},
		{run(0, limit, 1)},
		{run(0, limit-1, 2)},
		{run(0, limit-63, 64)},
		{run(0, 5, 2), run(2, 9, 1)},
		{run(0, 5, 2), run(2, 6, 1)},
		{run(0, 5, 2), run(2, 8, 1)},
		{run(0, 5, 2), run(3, 7, 1)},
		{run(0, 5, 2), run(3, 8, 1)},
		{run(0, 5, 2), run(2, 5, 2)},
		{run(0, 9, 1), run(1, 8, 1), run(2, 7, 1)},
		{run(0, 9, 1), run(2, 11, 1), run(62, 0, 2)},
	} {
		if !Right(l) {
			t.Errorf("%v is not Right", l)
		}
	}
}

func TestRightOfRunsOfNoFile(t *testing.T) {
	for _, l := range twist() {
		if Right(l) {
			t.Errorf("%v is Right", l)
		}
	}
}

func TestGet(t *testing.T) {
	l := list(run(2, 20, 3), run(5, 30, 1), run(7, 9, 1))
	for index, want := range map[int]int{2: 20, 3: 21, 4: 22, 5: 30, 7: 9} {
		if at, ok := Get(l, index); at != want || !ok {
			t.Errorf("%d: %d, %v; want %d", index, at, ok, want)
		}
	}
	for _, index := range []int{0, 1, 6, 8, 63, 64, -1, math.MinInt, math.MaxInt} {
		if at, ok := Get(l, index); at != 0 || ok {
			t.Errorf("the hole %d: %d, %v", index, at, ok)
		}
	}
	if at, ok := Get(nil, 0); at != 0 || ok {
		t.Errorf("of no runs: %d, %v", at, ok)
	}
}

func TestGetOfWhateverRuns(t *testing.T) {
	for _, r := range []struct {
		l     []api.Run
		index int
		at    int
		ok    bool
	}{
		{list(run(0, 5, 3), run(1, 50, 3)), 1, 6, true},
		{list(run(0, 5, 3), run(1, 50, 3)), 3, 52, true},
		{list(run(9, 5, 1), run(0, 50, 1)), 0, 50, true},
		{list(run(0, 5, 0), run(0, 50, 1)), 0, 50, true},
		{list(run(0, 5, -3), run(-4, 50, -9)), 0, 0, false},
		{list(run(0, 5, math.MinInt)), 0, 0, false},
		{list(run(0, 5, math.MinInt)), math.MaxInt, 0, false},
		{list(run(-5, 5, 3)), -4, 6, true},
		{list(run(-5, 5, 3)), -2, 0, false},
		{list(run(0, -7, 3)), 2, -5, true},
		{list(run(0, 5, 100)), 99, 104, true},
		{list(run(math.MaxInt-1, 5, 1<<62)), math.MaxInt, 6, true},
		{list(run(math.MaxInt-1, 5, 1)), math.MaxInt, 0, false},
		{list(run(math.MaxInt-1, 5, 1<<62)), math.MinInt, 0, false},
		{list(run(math.MinInt, 5, 1)), 0, 0, false},
		{list(run(math.MinInt, 5, math.MaxInt)), -1, 0, false},
		{list(run(math.MinInt, 5, math.MaxInt)), -2, math.MinInt + 3, true},
		{list(run(math.MinInt, 5, math.MaxInt)), math.MaxInt, 0, false},
		{list(run(0, math.MaxInt, 2)), 1, math.MinInt, true},
		{list(run(0, math.MinInt, math.MaxInt)), math.MaxInt - 1, -2, true},
	} {
		if at, ok := Get(r.l, r.index); at != r.at || ok != r.ok {
			t.Errorf("%d of %v: %d, %v; want %d, %v", r.index, r.l, at, ok, r.at, r.ok)
		}
	}
}

func TestSet(t *testing.T) {
	for _, r := range []struct {
		name      string
		l         []api.Run
		index, at int
		want      []api.Run
	}{
		{"the first page", nil, 0, 5, list(run(0, 5, 1))},
		{"the last one", nil, 63, 0, list(run(63, 0, 1))},
		{"the last place", list(run(0, limit-1, 1)), 1, limit, list(run(0, limit-1, 2))},
		{"the chapter's example", list(run(0, 5, 1)), 1, 6, list(run(0, 5, 2))},
		{"behind one, elsewhere", list(run(0, 5, 1)), 1, 7, list(run(0, 5, 1), run(1, 7, 1))},
		{"behind one, at the same place", list(run(0, 5, 1)), 1, 5, list(run(0, 5, 1), run(1, 5, 1))},
		{"ahead of one", list(run(1, 6, 1)), 0, 5, list(run(0, 5, 2))},
		{"ahead of one, elsewhere", list(run(1, 6, 1)), 0, 6, list(run(0, 6, 1), run(1, 6, 1))},
		{"where it is", list(run(0, 5, 3)), 1, 6, list(run(0, 5, 3))},
		{"out of the middle", list(run(0, 5, 3)), 1, 9, list(run(0, 5, 1), run(1, 9, 1), run(2, 7, 1))},
		{"out of the beginning", list(run(0, 5, 3)), 0, 9, list(run(0, 9, 1), run(1, 6, 2))},
		{"out of the end", list(run(0, 5, 3)), 2, 9, list(run(0, 5, 2), run(2, 9, 1))},
		{"back into the middle", list(run(0, 5, 1), run(1, 9, 1), run(2, 7, 1)), 1, 6, list(run(0, 5, 3))},
		{"into a hole that it fills", list(run(0, 5, 1), run(2, 7, 1)), 1, 6, list(run(0, 5, 3))},
		{"into a hole, elsewhere", list(run(0, 5, 1), run(2, 7, 1)), 1, 9, list(run(0, 5, 1), run(1, 9, 1), run(2, 7, 1))},
		{"behind a hole", list(run(0, 5, 1)), 2, 7, list(run(0, 5, 1), run(2, 7, 1))},
		{"from one run to the next", list(run(0, 5, 2), run(2, 21, 2)), 1, 20, list(run(0, 5, 1), run(1, 20, 3))},
		{"where another page is", list(run(0, 5, 2)), 0, 6, list(run(0, 6, 1), run(1, 6, 1))},
	} {
		if got := Set(r.l, r.index, r.at); !slices.Equal(got, r.want) {
			t.Errorf("%s: %v; want %v", r.name, got, r.want)
		}
	}
}

func TestSetOfNoPageOrNoPlace(t *testing.T) {
	for _, l := range [][]api.Run{nil, list(run(0, 5, 1)), list(run(0, 5, 2), run(2, 9, 1), run(63, 1, 1))} {
		for _, r := range []struct{ index, at int }{
			{-1, 6}, {64, 6}, {math.MinInt, 6}, {math.MaxInt, 6},
			{1, -1}, {1, limit + 1}, {1, math.MinInt}, {1, math.MaxInt},
			{-1, -1}, {64, limit + 1},
		} {
			if got := Set(l, r.index, r.at); !slices.Equal(got, l) {
				t.Errorf("%d at %d of %v: %v", r.index, r.at, l, got)
			}
		}
	}
}

func TestCut(t *testing.T) {
	l := list(run(0, 5, 3), run(4, 20, 2), run(6, 30, 1), run(63, 1, 1))
	for _, r := range []struct {
		n    int
		want []api.Run
	}{
		{math.MinInt, nil}, {-1, nil}, {0, nil},
		{1, list(run(0, 5, 1))}, {2, list(run(0, 5, 2))}, {3, l[:1]}, {4, l[:1]},
		{5, list(run(0, 5, 3), run(4, 20, 1))}, {6, l[:2]}, {7, l[:3]}, {63, l[:3]},
		{64, l}, {65, l}, {math.MaxInt, l},
	} {
		if got := Cut(l, r.n); !slices.Equal(got, r.want) {
			t.Errorf("%d: %v; want %v", r.n, got, r.want)
		}
		if got := Cut(nil, r.n); len(got) != 0 {
			t.Errorf("%d of no runs: %v", r.n, got)
		}
	}
}

func TestCountAndPages(t *testing.T) {
	for _, r := range []struct {
		l    []api.Run
		want []int
	}{
		{nil, nil},
		{list(run(63, 0, 1)), []int{0}},
		{list(run(0, 5, 3), run(4, 20, 2), run(9, 1, 1)), []int{5, 6, 7, 20, 21, 1}},
		{list(run(0, 5, 2), run(2, 5, 2)), []int{5, 6, 5, 6}},
		{list(run(1, limit-1, 2)), []int{limit - 1, limit}},
	} {
		if n := Count(r.l); n != len(r.want) {
			t.Errorf("%v: %d; want %d", r.l, n, len(r.want))
		}
		if got := Pages(r.l); !slices.Equal(got, r.want) {
			t.Errorf("%v: %v; want %v", r.l, got, r.want)
		}
	}
	all := Pages(list(run(0, 100, 64)))
	for i, at := range all {
		if at != 100+i {
			t.Errorf("page %d of all: %d", i, at)
		}
	}
	if len(all) != 64 || Count(list(run(0, 100, 64))) != 64 {
		t.Errorf("all: %d pages", len(all))
	}
}

func TestRunsThatAreNotRightTellNothing(t *testing.T) {
	for _, l := range twist() {
		for _, index := range []int{0, 1, 63, 64, -1} {
			if got := Set(l, index, 6); len(got) != 0 {
				t.Errorf("Set of %d of %v: %v", index, l, got)
			}
			if got := Cut(l, index); len(got) != 0 {
				t.Errorf("Cut of %v at %d: %v", l, index, got)
			}
		}
		if got := Set(l, 0, -1); len(got) != 0 {
			t.Errorf("Set of %v at no place: %v", l, got)
		}
		if n := Count(l); n != 0 {
			t.Errorf("Count of %v: %d", l, n)
		}
		if got := Pages(l); len(got) != 0 {
			t.Errorf("Pages of %v: %v", l, got)
		}
	}
}

func TestPagesAreWhereTheyWereSet(t *testing.T) {
	r := rand.New(rand.NewSource(9))
	for range 300 {
		m := holes()
		var l []api.Run
		for range 120 {
			index, at := r.Intn(api.MaxFile), r.Intn(40)
			// Next to its neighbour, so that runs grow, meet and part.
			if ahead := max(index-1, 0); r.Intn(3) > 0 && m[ahead] >= 0 {
				at = m[ahead] + index - ahead
			}
			m[index] = at
			l = Set(l, index, at)
			if r.Intn(10) == 0 {
				n := r.Intn(api.MaxFile + 1)
				m = m.cut(n)
				l = Cut(l, n)
			}
			isModel(t, l, m)
		}
	}
}

// isModel tells of runs that are not those of m.
func isModel(t *testing.T, l []api.Run, m model) {
	t.Helper()
	if !Right(l) || !slices.Equal(l, m.runs()) {
		t.Fatalf("%v; want %v", l, m.runs())
	}
	for index, want := range m {
		if at, ok := Get(l, index); ok != (want >= 0) || ok && at != want {
			t.Fatalf("page %d of %v: %d, %v; want %d", index, l, at, ok, want)
		}
	}
	if Count(l) != len(m.places()) || !slices.Equal(Pages(l), m.places()) {
		t.Fatalf("%v: %d pages: %v", l, Count(l), Pages(l))
	}
}

func TestCutOfFiles(t *testing.T) {
	r := rand.New(rand.NewSource(10))
	for range 50 {
		m := some(r)
		for n := range api.MaxFile + 1 {
			isModel(t, Cut(m.runs(), n), m.cut(n))
		}
	}
}

func TestWhatIsHandedInStays(t *testing.T) {
	room := list(run(0, 5, 3), run(4, 20, 2), run(9, 1, 1), run(11, 60, 2))
	kept := slices.Clone(room)
	l := room[:3]
	for _, got := range [][]api.Run{Set(l, 3, 8), Set(l, 1, 77), Set(l, 10, 2), Set(l, 4, 20), Set(l, -1, 0), Set(l, 0, -1), Cut(l, 2), Cut(l, 5), Cut(l, 64)} {
		clear(got[:cap(got)])
	}
	places := Pages(l)
	clear(places[:cap(places)])
	if !slices.Equal(room, kept) {
		t.Errorf("%v; was %v", room, kept)
	}
	room[3] = run(0, 0, 0)
	if !Right(l) || Count(l) != 6 || len(Set(l, 11, 60)) != 4 {
		t.Error("the room behind the end plays a part")
	}
}
