package power

import (
	"math"
	"slices"
	"testing"
)

// steps does n steps and answers how each went: 'd' done, 't' torn, 'o' off, '?' both done and torn.
func steps(p *Power, n int) string {
	var went []byte
	for range n {
		switch done, torn := p.Step(); {
		case done && torn:
			went = append(went, '?')
		case done:
			went = append(went, 'd')
		case torn:
			went = append(went, 't')
		default:
			went = append(went, 'o')
		}
	}
	return string(went)
}

// failing does n steps and answers the places of those of which Fails was true.
func failing(p *Power, n int) []int {
	var at []int
	for i := range n {
		p.Step()
		if p.Fails() {
			at = append(at, i)
		}
	}
	return at
}

// cutOff answers a power that went at once, with the mask.
func cutOff(mask byte) *Power {
	p := New()
	p.Cut(0, mask)
	p.Step()
	return p
}

func TestNew(t *testing.T) {
	for _, r := range []struct {
		name string
		p    *Power
	}{
		{"New", New()},
		{"the zero value", &Power{}},
	} {
		if r.p.Off() || r.p.Mask() != 0 || r.p.Steps() != 0 || r.p.Fails() {
			t.Errorf("%s: off %v, mask %d, steps %d, fails %v", r.name, r.p.Off(), r.p.Mask(), r.p.Steps(), r.p.Fails())
		}
		if went := steps(r.p, 3); went != "ddd" || r.p.Steps() != 3 || r.p.Off() || r.p.Fails() {
			t.Errorf("%s: three steps went %s; steps %d", r.name, went, r.p.Steps())
		}
	}
}

func TestCutTearsTheStepBehindLeft(t *testing.T) {
	for _, r := range []struct {
		left int
		want string
		done int
		off  bool
	}{
		{0, "tooooo", 0, true},
		{1, "dtoooo", 1, true},
		{2, "ddtooo", 2, true},
		{5, "dddddt", 5, true},
		{6, "dddddd", 6, false},
		{-1, "dddddd", 6, false},
		{-2, "dddddd", 6, false},
		{math.MinInt, "dddddd", 6, false},
		{math.MaxInt, "dddddd", 6, false},
	} {
		p := New()
		p.Cut(r.left, 1)
		if went := steps(p, 6); went != r.want || p.Steps() != r.done || p.Off() != r.off {
			t.Errorf("Cut(%d): %s, %d done, off %v; want %s, %d, %v", r.left, went, p.Steps(), p.Off(), r.want, r.done, r.off)
		}
	}
}

func TestCutCountsFromWhereItIsSaid(t *testing.T) {
	p := New()
	steps(p, 4)
	p.Cut(1, 1)
	if went := steps(p, 3); went != "dto" || p.Steps() != 5 {
		t.Errorf("%s, %d done", went, p.Steps())
	}
	p = New()
	steps(p, 4)
	// A sum of the steps done and those left would go round.
	p.Cut(math.MaxInt, 1)
	if went := steps(p, 3); went != "ddd" {
		t.Errorf("the greatest number behind four steps: %s", went)
	}
}

func TestCutLastOneCounts(t *testing.T) {
	for _, r := range []struct {
		name string
		cuts []int
		want string
	}{
		{"later", []int{0, 2}, "ddto"},
		{"earlier", []int{3, 1}, "dtoo"},
		{"never", []int{1, -1}, "dddd"},
		{"again", []int{-1, 1}, "dtoo"},
	} {
		p := New()
		for _, left := range r.cuts {
			p.Cut(left, 1)
		}
		if went := steps(p, 4); went != r.want {
			t.Errorf("%s: %s; want %s", r.name, went, r.want)
		}
	}
	p := New()
	p.Cut(2, 1)
	steps(p, 1)
	p.Cut(2, 1)
	if went := steps(p, 4); went != "ddto" {
		t.Errorf("on the way to it: %s", went)
	}
}

func TestCutWhileOffStaysOff(t *testing.T) {
	for _, left := range []int{-1, 0, 1} {
		p := cutOff(1)
		p.Cut(left, 7)
		if went := steps(p, 3); went != "ooo" || !p.Off() || p.Steps() != 0 || p.Mask() != 7 {
			t.Errorf("Cut(%d): %s, off %v, mask %d", left, went, p.Off(), p.Mask())
		}
	}
}

func TestCutAloneIsNotOff(t *testing.T) {
	p := New()
	p.Cut(0, 1)
	if p.Off() {
		t.Error("off ahead of the torn step")
	}
}

func TestOn(t *testing.T) {
	p := cutOff(9)
	p.On()
	if p.Off() || p.Mask() != 9 || p.Steps() != 0 {
		t.Errorf("behind a torn step: off %v, mask %d, steps %d", p.Off(), p.Mask(), p.Steps())
	}
	if went := steps(p, 3); went != "ddd" {
		t.Errorf("behind a torn step: %s", went)
	}
	for left := range 3 {
		p = New()
		p.Cut(left, 9)
		p.On()
		if went := steps(p, 4); went != "dddd" || p.Mask() != 9 {
			t.Errorf("ahead of the step that Cut(%d) would tear: %s, mask %d", left, went, p.Mask())
		}
	}
	p = cutOff(9)
	p.Cut(1, 8)
	p.On()
	if went := steps(p, 3); went != "ddd" || p.Mask() != 8 {
		t.Errorf("behind a Cut while off: %s, mask %d", went, p.Mask())
	}
	p.Cut(1, 8)
	if went := steps(p, 3); went != "dto" || p.Steps() != 4 {
		t.Errorf("a Cut behind On: %s, steps %d", went, p.Steps())
	}
}

func TestOnKeepsStepsAndFails(t *testing.T) {
	p := New()
	p.Fail([]int{1, 3})
	p.Cut(2, 1)
	steps(p, 4)
	p.On()
	if p.Steps() != 2 || !p.Fails() {
		t.Errorf("steps %d, fails %v", p.Steps(), p.Fails())
	}
	if at := failing(p, 4); !slices.Equal(at, []int{1}) {
		t.Errorf("the steps 2 to 5 fail at %v; want the second", at)
	}
}

func TestMaskIsThatOfTheLastCut(t *testing.T) {
	p := New()
	for _, r := range []struct {
		left int
		mask byte
	}{{3, 5}, {-1, 255}, {0, 1}, {math.MinInt, 2}, {2, 0}} {
		p.Cut(r.left, r.mask)
		if p.Mask() != r.mask {
			t.Errorf("Cut(%d, %d): mask %d", r.left, r.mask, p.Mask())
		}
	}
}

func TestFailByNumber(t *testing.T) {
	for _, r := range []struct {
		name string
		l    []int
		want []int
	}{
		{"nil", nil, nil},
		{"empty", []int{}, nil},
		{"the first", []int{0}, []int{0}},
		{"some", []int{1, 4}, []int{1, 4}},
		{"falling, and twice", []int{4, 1, 4}, []int{1, 4}},
		{"all", []int{0, 1, 2, 3, 4, 5}, []int{0, 1, 2, 3, 4, 5}},
		{"none of them", []int{-1, 6, math.MinInt, math.MaxInt}, nil},
	} {
		p := New()
		p.Fail(r.l)
		if p.Fails() {
			t.Errorf("%s: fails ahead of the first step", r.name)
		}
		if at := failing(p, 6); !slices.Equal(at, r.want) {
			t.Errorf("%s: at %v; want %v", r.name, at, r.want)
		}
		if p.Steps() != 6 {
			t.Errorf("%s: steps %d: one that fails is done", r.name, p.Steps())
		}
	}
}

func TestFailAheadOfTheFirstStep(t *testing.T) {
	// No step was done: -1, which would be the last one's number, is none.
	p := New()
	p.Fail([]int{-1})
	if p.Fails() {
		t.Error("New")
	}
	p.Cut(0, 1)
	p.Step()
	if p.Fails() {
		t.Error("a torn step")
	}
}

func TestFailInPlaceOfAllSaidBefore(t *testing.T) {
	p := New()
	p.Fail([]int{0, 2})
	p.Step()
	if !p.Fails() {
		t.Error("0 does not fail")
	}
	p.Fail([]int{1})
	if p.Fails() {
		t.Error("0 fails still")
	}
	p.Fail([]int{0})
	if !p.Fails() {
		t.Error("0, said behind its step, does not fail")
	}
	p.Fail([]int{3})
	if at := failing(p, 3); !slices.Equal(at, []int{2}) {
		t.Errorf("the steps 1 to 3 fail at %v; want the third", at)
	}
	p.Fail(nil)
	if p.Fails() {
		t.Error("3 fails still")
	}
}

func TestFailsTellsOfTheLastStepDone(t *testing.T) {
	p := New()
	p.Fail([]int{1})
	p.Cut(2, 1)
	steps(p, 2)
	for _, name := range []string{"done", "torn", "off"} {
		// Step 1 is the last one that was done, as the torn one is not.
		if !p.Fails() || !p.Fails() {
			t.Errorf("%s: false", name)
		}
		p.Step()
	}
	p = New()
	p.Fail([]int{2})
	p.Cut(2, 1)
	steps(p, 4)
	if p.Fails() {
		t.Error("2 was torn")
	}
	p.On()
	p.Step()
	if !p.Fails() {
		t.Error("2, done behind On, does not fail")
	}
}

func TestFailKeepsNothing(t *testing.T) {
	room := []int{1, 3, 4, 5}
	l := room[:2]
	p := New()
	p.Fail(l)
	if !slices.Equal(room, []int{1, 3, 4, 5}) {
		t.Errorf("what was handed in is %v", room)
	}
	l[0], l[1] = 0, 2
	if at := failing(p, 6); !slices.Equal(at, []int{1, 3}) {
		t.Errorf("at %v; want 1 and 3", at)
	}
}

func TestPowersAreApart(t *testing.T) {
	p, q := New(), New()
	p.Fail([]int{0})
	p.Cut(1, 3)
	steps(p, 2)
	if went := steps(q, 2); went != "dd" || q.Fails() || q.Off() || q.Mask() != 0 || q.Steps() != 2 {
		t.Errorf("another one: %s, fails %v, off %v, mask %d, steps %d", went, q.Fails(), q.Off(), q.Mask(), q.Steps())
	}
}

func TestAskingTurnsNothing(t *testing.T) {
	p := New()
	p.Fail([]int{0})
	p.Cut(1, 3)
	p.Step()
	for range 3 {
		if p.Off() || p.Mask() != 3 || p.Steps() != 1 || !p.Fails() {
			t.Errorf("off %v, mask %d, steps %d, fails %v", p.Off(), p.Mask(), p.Steps(), p.Fails())
		}
	}
	if went := steps(p, 2); went != "to" {
		t.Errorf("behind the asking: %s", went)
	}
}

func TestNil(t *testing.T) {
	var p *Power
	p.Cut(0, 1)
	p.Fail([]int{0, 1, 2})
	for range 3 {
		if done, torn := p.Step(); !done || torn {
			t.Errorf("Step: %v, %v", done, torn)
		}
		if p.Fails() || p.Off() || p.Mask() != 0 || p.Steps() != 0 {
			t.Errorf("fails %v, off %v, mask %d, steps %d", p.Fails(), p.Off(), p.Mask(), p.Steps())
		}
		p.On()
	}
}
