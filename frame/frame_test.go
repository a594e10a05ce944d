package frame

import (
	"bytes"
	"encoding/binary"
	"hash/adler32"
	"math/rand"
	"slices"
	"testing"

	"garret/api"
)

const limit = 65_000

// record lays a record by the library's means; n is what it says its length is.
func record(n int, b []byte, flag byte) []byte {
	out := binary.LittleEndian.AppendUint16(nil, uint16(n))
	s := adler32.Checksum(slices.Concat(out, b))
	out = append(binary.LittleEndian.AppendUint32(out, s), b...)
	return append(out, flag)
}

// whole lays a record that counts.
func whole(s string) []byte {
	return record(len(s), []byte(s), 0)
}

// filled is n bytes that are v.
func filled(n int, v byte) []byte {
	return bytes.Repeat([]byte{v}, n)
}

// isScan tells whether Scan of b answers these bodies, this length of all records, and whether the rest is clean.
func isScan(t *testing.T, name string, b []byte, bodies []string, n int, clean bool) {
	t.Helper()
	got, m, c := Scan(b)
	var texts []string
	for _, x := range got {
		texts = append(texts, string(x))
	}
	if !slices.Equal(texts, bodies) || m != n || c != clean {
		t.Errorf("%s: %q, %d, %v; want %q, %d, %v", name, texts, m, c, bodies, n, clean)
	}
}

func TestSizeIsSevenAndBytes(t *testing.T) {
	for _, n := range []int{0, 1, 255, 256, limit, limit + 1} {
		if got := Size(n); got != n+7 {
			t.Errorf("%d: %d", n, got)
		}
	}
}

func TestBodyLaysLengthSumAndBytes(t *testing.T) {
	for _, r := range []struct {
		name string
		b    []byte
		want []byte
	}{
		{"nothing", nil, []byte{0, 0, 1, 0, 2, 0}},
		{"an empty list is as nil", []byte{}, []byte{0, 0, 1, 0, 2, 0}},
		{"one byte", []byte{255}, []byte{1, 0, 1, 1, 5, 1, 255}},
		{"three bytes", []byte("abc"), []byte{3, 0, 0x2a, 1, 0x5e, 2, 'a', 'b', 'c'}},
		{"a length of two bytes", filled(258, 7), slices.Concat([]byte{2, 1, 0x12, 7, 0xd1, 0x95}, filled(258, 7))},
	} {
		if got, e := Body(r.b); !bytes.Equal(got, r.want) || e != api.OK {
			t.Errorf("%s: %v, %d; want %v", r.name, got, e, r.want)
		}
	}
}

func TestBodyHasOneByteLessThanSize(t *testing.T) {
	for _, n := range []int{0, 1, 2, 255, 256, 257, 32_768, limit - 1, limit} {
		b := filled(n, 9)
		got, e := Body(b)
		want := record(n, b, 0)
		if !bytes.Equal(got, want[:len(want)-1]) || len(got) != Size(n)-1 || e != api.OK {
			t.Errorf("%d: %d bytes, %d", n, len(got), e)
		}
	}
}

func TestBodyRefusesTooMuch(t *testing.T) {
	for _, n := range []int{limit + 1, 65_535, 65_536, 65_539, 200_000} {
		if got, e := Body(make([]byte, n)); len(got) != 0 || e != api.ErrBig {
			t.Errorf("%d: %d bytes, %d", n, len(got), e)
		}
	}
}

func TestScanTakesWholeRecords(t *testing.T) {
	abc, none := whole("abc"), whole("")
	rest := filled(9, 255)
	for _, r := range []struct {
		name   string
		b      []byte
		bodies []string
		n      int
		clean  bool
	}{
		{"nothing", nil, nil, 0, true},
		{"an empty list is as nil", []byte{}, nil, 0, true},
		{"erased, less than a record", filled(6, 255), nil, 0, true},
		{"erased, more than a record", filled(70_000, 255), nil, 0, true},
		{"one, and nothing behind it", abc, []string{"abc"}, 10, true},
		{"one of no bytes", none, []string{""}, 7, true},
		{"one of bytes that are 255", whole("\xff\xff"), []string{"\xff\xff"}, 9, true},
		{"some, and an erased rest", slices.Concat(abc, none, whole("x"), rest), []string{"abc", "", "x"}, 25, true},
		{"a rest of one byte", slices.Concat(abc, rest[:1]), []string{"abc"}, 10, true},
		{"a record within one is not another one", whole(string(abc)), []string{string(abc)}, 17, true},
		{"a length of two bytes", whole(string(filled(258, 7))), []string{string(filled(258, 7))}, 265, true},
	} {
		isScan(t, r.name, r.b, r.bodies, r.n, r.clean)
	}
}

func TestScanStopsAtWhatIsNoWholeRecord(t *testing.T) {
	abc, x := whole("abc"), whole("x")
	rest := filled(9, 255)
	for _, r := range []struct {
		name   string
		behind []byte
	}{
		{"a byte", []byte{0}},
		{"a byte with one bit cleared", []byte{254}},
		{"the last of many bytes with one bit cleared", append(filled(100, 255), 127)},
		{"an erased byte ahead of a record", slices.Concat(rest[:1], x)},
		{"a record's length alone", x[:2]},
		{"a record without its flag", x[:7]},
		{"a record with an erased flag", slices.Concat(x[:7], rest)},
		{"a record with a torn flag", slices.Concat(x[:7], []byte{1}, rest)},
		{"a record with another torn flag, and one behind it", slices.Concat(x[:7], []byte{128}, abc)},
		{"zeros, whose sum is not 0", make([]byte, 7)},
		{"many zeros", make([]byte, 700)},
		{"a length beyond the end", []byte{200, 0, 1, 0, 2, 0, 0}},
		{"the sum of another length", record(2, []byte("abc"), 0)},
	} {
		isScan(t, r.name+", behind nothing", r.behind, nil, 0, false)
		isScan(t, r.name, slices.Concat(abc, r.behind), []string{"abc"}, 10, false)
	}
}

func TestScanSeesEachOtherByte(t *testing.T) {
	two := slices.Concat(whole("abc"), whole("de"), filled(3, 255))
	for i := range whole("de") {
		for v := range 256 {
			b := bytes.Clone(two)
			b[10+i] = byte(v)
			if b[10+i] != two[10+i] {
				isScan(t, "byte "+string(rune('0'+i)), b, []string{"abc"}, 10, false)
			}
		}
	}
}

func TestScanOfTornEndKeepsWhatIsAhead(t *testing.T) {
	all := slices.Concat(whole("abc"), whole(""), whole("defg"))
	bodies, ends := []string{"abc", "", "defg"}, []int{10, 17, 28}
	for n := range len(all) + 1 {
		k, end := 0, 0
		for k < len(ends) && ends[k] <= n {
			end = ends[k]
			k++
		}
		isScan(t, "cut off", all[:n], bodies[:k], end, n == end)
		isScan(t, "cut off, erased behind it", slices.Concat(all[:n], filled(40, 255)), bodies[:k], end, n == end)
	}
}

func TestScanHoldsLengthAgainstLimit(t *testing.T) {
	b := filled(limit, 3)
	isScan(t, "the limit", record(limit, b, 0), []string{string(b)}, limit+7, true)
	for _, n := range []int{limit + 1, 65_535} {
		isScan(t, "above it, its sum right", record(n, filled(n, 3), 0), nil, 0, false)
	}
}

func TestWhatIsFramedIsScanned(t *testing.T) {
	r := rand.New(rand.NewSource(7))
	for range 200 {
		var b []byte
		var bodies []string
		for range r.Intn(6) {
			x := make([]byte, r.Intn(600))
			r.Read(x)
			body, e := Body(x)
			if e != api.OK {
				t.Fatalf("Body of %d bytes: %d", len(x), e)
			}
			b = append(append(b, body...), 0)
			bodies = append(bodies, string(x))
		}
		isScan(t, "framed", slices.Concat(b, filled(r.Intn(20), 255)), bodies, len(b), true)
	}
}

func TestWhatIsHandedInStays(t *testing.T) {
	room := slices.Concat(whole("abc"), whole("de"), []byte("behind"))
	kept := bytes.Clone(room)
	end := len(room) - 6
	body, _ := Body(room[:3])
	bodies, _, _ := Scan(room[:end])
	clear(body[:cap(body)])
	for _, x := range bodies {
		clear(x[:cap(x)])
	}
	if !bytes.Equal(room, kept) {
		t.Errorf("%v; was %v", room, kept)
	}
	room[end] ^= 255
	isScan(t, "the room behind the end", room[:end], []string{"abc", "de"}, end, true)
	isScan(t, "a flag in the room behind the end", room[:end-1], []string{"abc"}, 10, false)
}

func TestAnswersShareNoMemory(t *testing.T) {
	b := slices.Concat(whole("abc"), whole("de"))
	first, _, _ := Scan(b)
	second, _, _ := Scan(b)
	clear(first[0][:cap(first[0])])
	if string(first[1]) != "de" || string(second[0]) != "abc" {
		t.Errorf("%q, %q", first, second)
	}
	x, _ := Body([]byte("abc"))
	y, _ := Body([]byte("abc"))
	clear(x[:cap(x)])
	if want := whole("abc"); !bytes.Equal(y, want[:9]) {
		t.Errorf("%v", y)
	}
}
