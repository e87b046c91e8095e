package octet_test

import (
	"bytes"
	"hash/crc32"
	"math"
	"slices"
	"strconv"
	"testing"

	"haystack/octet"
)

const most = 1 << 62

// edges are numbers at which their form changes, with the bytes of it.
var edges = []struct {
	n    int
	form []byte
}{
	{0, []byte{0}},
	{1, []byte{1}},
	{127, []byte{0x7f}},
	{128, []byte{0x80, 1}},
	{129, []byte{0x81, 1}},
	{255, []byte{0xff, 1}},
	{300, []byte{0xac, 2}},
	{1<<14 - 1, []byte{0xff, 0x7f}},
	{1 << 14, []byte{0x80, 0x80, 1}},
	{1<<56 - 1, []byte{0xff, 0xff, 0xff, 0xff, 0xff, 0xff, 0xff, 0x7f}},
	{1 << 56, []byte{0x80, 0x80, 0x80, 0x80, 0x80, 0x80, 0x80, 0x80, 1}},
	{most - 1, []byte{0xff, 0xff, 0xff, 0xff, 0xff, 0xff, 0xff, 0xff, 0x3f}},
	{most, []byte{0x80, 0x80, 0x80, 0x80, 0x80, 0x80, 0x80, 0x80, 0x40}},
}

// laid is what a new Writer has behind a call.
func laid(lay func(w *octet.Writer)) []byte {
	var w octet.Writer
	lay(&w)
	return w.Out()
}

func same(t *testing.T, name string, got, want []byte) {
	t.Helper()
	if !bytes.Equal(got, want) {
		t.Errorf("%s: % x, want % x", name, got, want)
	}
}

// P1.1

func TestExample(t *testing.T) {
	same(t, "example", laid(func(w *octet.Writer) {
		w.Nums(1, 300)
		w.Bytes([]byte{0x61})
	}), []byte{1, 0xac, 2, 1, 0x61})
}

func TestNumsLaid(t *testing.T) {
	for _, e := range edges {
		same(t, strconv.Itoa(e.n), laid(func(w *octet.Writer) { w.Nums(e.n) }), e.form)
	}
	for _, n := range []int{-1, -128, -most, math.MinInt} {
		same(t, strconv.Itoa(n), laid(func(w *octet.Writer) { w.Nums(n) }), []byte{0})
	}
	top := edges[len(edges)-1].form
	for _, n := range []int{most + 1, most + most/2, math.MaxInt} {
		same(t, strconv.Itoa(n), laid(func(w *octet.Writer) { w.Nums(n) }), top)
	}
}

func TestBytesLaid(t *testing.T) {
	long := bytes.Repeat([]byte{9}, 128)
	for _, c := range []struct {
		name string
		rows [][]byte
		want []byte
	}{
		{"no rows", nil, nil},
		{"an empty row", [][]byte{{}}, []byte{0}},
		{"a nil row", [][]byte{nil}, []byte{0}},
		{"several", [][]byte{{1, 2}, nil, {3}}, []byte{2, 1, 2, 0, 1, 3}},
		{"127 bytes", [][]byte{long[:127]}, append([]byte{0x7f}, long[:127]...)},
		{"128 bytes", [][]byte{long}, append([]byte{0x80, 1}, long...)},
	} {
		same(t, c.name, laid(func(w *octet.Writer) { w.Bytes(c.rows...) }), c.want)
	}
}

func TestRawLaid(t *testing.T) {
	same(t, "none", laid(func(w *octet.Writer) { w.Raw() }), nil)
	var all []byte
	for b := range 256 {
		all = append(all, byte(b))
	}
	same(t, "each byte", laid(func(w *octet.Writer) { w.Raw(all...) }), all)
}

func TestEmptyWriter(t *testing.T) {
	same(t, "zero value", laid(func(w *octet.Writer) {}), nil)
	same(t, "nothing laid", laid(func(w *octet.Writer) {
		w.Nums()
		w.Bytes()
		w.Raw()
	}), nil)
}

func TestLaidBehind(t *testing.T) {
	row := []byte{5, 6}
	at := func(w *octet.Writer, i int) {
		switch i {
		case 0:
			w.Nums(200)
		case 1:
			w.Bytes(row)
		case 2:
			w.Raw(row...)
		}
	}
	for i := range 3 {
		for j := range 3 {
			both := laid(func(w *octet.Writer) { at(w, i); at(w, j) })
			one := laid(func(w *octet.Writer) { at(w, i) })
			two := laid(func(w *octet.Writer) { at(w, j) })
			same(t, "one behind the other", both, slices.Concat(one, two))
		}
	}
}

func TestVariadic(t *testing.T) {
	same(t, "Nums", laid(func(w *octet.Writer) { w.Nums(1, -1, 300, most) }), laid(func(w *octet.Writer) {
		w.Nums(1)
		w.Nums(-1)
		w.Nums(300)
		w.Nums(most)
	}))
	same(t, "Bytes", laid(func(w *octet.Writer) { w.Bytes([]byte("ab"), nil, []byte("c")) }), laid(func(w *octet.Writer) {
		w.Bytes([]byte("ab"))
		w.Bytes(nil)
		w.Bytes([]byte("c"))
	}))
	same(t, "Raw", laid(func(w *octet.Writer) { w.Raw(1, 2) }), laid(func(w *octet.Writer) {
		w.Raw(1)
		w.Raw(2)
	}))
}

func TestOutIsNew(t *testing.T) {
	var w octet.Writer
	w.Raw(1, 2, 3)
	first, second := w.Out(), w.Out()
	same(t, "twice", second, first)
	spoil(first)
	same(t, "behind a change", second, []byte{1, 2, 3})
	same(t, "what the Writer has", w.Out(), []byte{1, 2, 3})
	w.Raw(4)
	same(t, "behind more", second, []byte{1, 2, 3})
	spoil(second)
	same(t, "laid behind Out", w.Out(), []byte{1, 2, 3, 4})
}

// spoil changes a row and the spare room behind its end.
func spoil(p []byte) {
	p = p[:cap(p)]
	for i := range p {
		p[i] ^= 0xff
	}
}

// P1.2

func TestTaken(t *testing.T) {
	r := octet.NewReader([]byte{1, 0xac, 2, 1, 0x61, 7, 8, 9})
	if n := r.Num(); n != 1 || r.Left() != 7 {
		t.Error("Num", n, r.Left())
	}
	var n int
	r.Nums(&n)
	if n != 300 || r.Left() != 5 {
		t.Error("Nums", n, r.Left())
	}
	same(t, "Bytes", r.Bytes(), []byte{0x61})
	same(t, "Raw of nothing", r.Raw(0), nil)
	same(t, "Raw", r.Raw(2), []byte{7, 8})
	if r.Left() != 1 || !r.Good() || r.Whole() {
		t.Error("one left", r.Left(), r.Good(), r.Whole())
	}
	same(t, "the last", r.Raw(1), []byte{9})
	if r.Left() != 0 || !r.Good() || !r.Whole() {
		t.Error("none left", r.Left(), r.Good(), r.Whole())
	}
	same(t, "Raw of nothing at the end", r.Raw(0), nil)
	if !r.Whole() {
		t.Error("Raw(0) at the end errs")
	}
}

func TestEdgesTaken(t *testing.T) {
	for _, e := range edges {
		r := octet.NewReader(append(slices.Clone(e.form), 0xff))
		if n := r.Num(); n != e.n || !r.Good() || r.Left() != 1 {
			t.Error(e.n, n, r.Good(), r.Left())
		}
	}
}

func TestEmptyReader(t *testing.T) {
	for i, r := range []*octet.Reader{octet.NewReader(nil), octet.NewReader([]byte{}), new(octet.Reader)} {
		if !r.Good() || !r.Whole() || r.Left() != 0 {
			t.Error(i, r.Good(), r.Whole(), r.Left())
		}
		if r.Num() != 0 || r.Good() {
			t.Error(i, "a number out of nothing")
		}
	}
}

// spent tells whether a Reader erred and gives nothing more.
func spent(r *octet.Reader) bool {
	n, m := 5, 5
	r.Nums(&n, nil, &m)
	return !r.Good() && !r.Whole() && r.Left() == 0 && n == 0 && m == 0 && r.Num() == 0 &&
		len(r.Bytes()) == 0 && len(r.Raw(0)) == 0 && len(r.Raw(1)) == 0 && len(r.Raw(-1)) == 0 &&
		!r.Good() && !r.Whole() && r.Left() == 0
}

func TestNumErrs(t *testing.T) {
	nines := bytes.Repeat([]byte{0xff}, 9)
	tens := bytes.Repeat([]byte{0x80}, 10)
	for _, c := range []struct {
		name  string
		bytes []byte
	}{
		{"nothing", nil},
		{"no last byte", []byte{0x80}},
		{"no last byte of nine", nines},
		{"ten above 7f, the end", tens},
		{"ten above 7f, 00 behind", append(slices.Clone(tens), 0, 1)},
		{"ten above 7f, 01 behind", append(slices.Clone(tens), 1, 1)},
		{"nine above 7f, 00", append(slices.Clone(tens[:9]), 0, 1)},
		{"nine above 7f, 01: 2^63", append(slices.Clone(tens[:9]), 1, 1)},
		{"nine above 7f, 02: 2^64", append(slices.Clone(tens[:9]), 2, 1)},
		{"a last byte 00 of two", []byte{0x80, 0, 1}},
		{"a last byte 00 of two, a number", []byte{0x81, 0, 1}},
		{"a last byte 00 of three", []byte{0x81, 0x80, 0, 1}},
		{"a last byte 00 of nine", append(slices.Clone(tens[:8]), 0, 1)},
		{"2^62 + 1", []byte{0x81, 0x80, 0x80, 0x80, 0x80, 0x80, 0x80, 0x80, 0x40, 1}},
		{"2^62 + 2^61", []byte{0x80, 0x80, 0x80, 0x80, 0x80, 0x80, 0x80, 0x80, 0x60, 1}},
		{"2^63 - 1", append(slices.Clone(nines[:8]), 0x7f, 1)},
	} {
		if r := octet.NewReader(c.bytes); r.Num() != 0 || !spent(r) {
			t.Error("Num:", c.name)
		}
		n := 5
		r := octet.NewReader(c.bytes)
		if r.Nums(&n); n != 0 || !spent(r) {
			t.Error("Nums:", c.name)
		}
		if r := octet.NewReader(c.bytes); len(r.Bytes()) != 0 || !spent(r) {
			t.Error("Bytes:", c.name)
		}
	}
}

func TestRowErrs(t *testing.T) {
	for i, b := range [][]byte{{1}, {3, 1, 2}, {0x80, 1, 7}, {0x80, 0x80, 0x80, 0x80, 0x80, 0x80, 0x80, 0x80, 0x40, 1, 2}} {
		if r := octet.NewReader(b); len(r.Bytes()) != 0 || !spent(r) {
			t.Error(i)
		}
	}
	for _, n := range []int{-1, math.MinInt, 4, math.MaxInt} {
		if r := octet.NewReader([]byte{1, 2, 3}); len(r.Raw(n)) != 0 || !spent(r) {
			t.Error("Raw", n)
		}
	}
	if r := octet.NewReader(nil); len(r.Raw(1)) != 0 || !spent(r) {
		t.Error("Raw out of nothing")
	}
}

func TestBad(t *testing.T) {
	r := octet.NewReader([]byte{1, 2, 3})
	r.Num()
	if r.Bad(); !spent(r) {
		t.Error("Bad")
	}
	if r.Bad(); !spent(r) {
		t.Error("Bad twice")
	}
	r = octet.NewReader(nil)
	if r.Bad(); !spent(r) {
		t.Error("Bad of a Reader that is whole")
	}
}

// What stands behind an error must not be taken, even where it could be.
func TestNothingBehindAnError(t *testing.T) {
	a, b, c := 5, 5, 5
	r := octet.NewReader([]byte{1, 0x80, 0, 3, 4})
	if r.Nums(&a, &b, &c); a != 1 || b != 0 || c != 0 || !spent(r) {
		t.Error(a, b, c)
	}
}

func TestPlaces(t *testing.T) {
	a, b := 5, 5
	r := octet.NewReader([]byte{1, 2, 3, 4})
	r.Nums()
	if r.Left() != 4 {
		t.Error("no place", r.Left())
	}
	r.Nums(nil, &b, nil, &a)
	if a != 4 || b != 2 || !r.Whole() {
		t.Error(a, b, r.Left())
	}
	r = octet.NewReader([]byte{1, 2, 3})
	if r.Nums(&a, &a); a != 2 || r.Left() != 1 {
		t.Error("one place twice", a, r.Left())
	}
	r = octet.NewReader([]byte{1})
	if r.Nums(nil, nil); !spent(r) {
		t.Error("nil places beyond the end")
	}
}

// P1.3

func TestJoin(t *testing.T) {
	one, two := []byte{1, 2}, []byte{3}
	for _, c := range []struct {
		name string
		rows [][]byte
		want []byte
	}{
		{"no row", nil, nil},
		{"a nil row", [][]byte{nil}, nil},
		{"one row", [][]byte{one}, []byte{1, 2}},
		{"several", [][]byte{one, nil, two, {}, one}, []byte{1, 2, 3, 1, 2}},
	} {
		same(t, c.name, octet.Join(c.rows...), c.want)
		if octet.Sum(c.rows...) != octet.Sum(c.want) {
			t.Error("Sum:", c.name)
		}
	}
}

func TestSum(t *testing.T) {
	if s := octet.Sum([]byte("1234"), []byte("56789")); s != 0xcbf43926 {
		t.Errorf("example: %x", s)
	}
	if s := octet.Sum([]byte("123456789")); s != 0xcbf43926 {
		t.Errorf("one row: %x", s)
	}
	if octet.Sum() != 0 || octet.Sum(nil) != 0 || octet.Sum(nil, []byte{}) != 0 {
		t.Error("nothing")
	}
	for b := range 256 {
		if p := []byte{byte(b)}; octet.Sum(p) != crc32.ChecksumIEEE(p) {
			t.Errorf("byte %x: %x", b, octet.Sum(p))
		}
	}
	row := muddle(1000)
	for i := range row {
		want := crc32.ChecksumIEEE(row)
		if s := octet.Sum(row[:i], row[i:]); s != want {
			t.Errorf("parted at %d: %x, want %x", i, s, want)
		}
	}
}

// muddle is a row of bytes of all kinds, always the same.
func muddle(n int) []byte {
	p := make([]byte, n)
	x := uint32(1)
	for i := range p {
		x = x*1103515245 + 12345
		p[i] = byte(x >> 16)
	}
	return p
}

// P1.4

func TestTakenAsLaid(t *testing.T) {
	var w octet.Writer
	rows := [][]byte{nil, {0}, muddle(127), muddle(128), muddle(20000)}
	for shift := range 63 {
		for _, n := range []int{1<<shift - 1, 1 << shift, min(1<<shift+1, most)} {
			w.Nums(n)
			w.Bytes(rows[n%len(rows)])
			w.Raw(byte(n), 0xff)
		}
	}
	r := octet.NewReader(w.Out())
	for shift := range 63 {
		for _, n := range []int{1<<shift - 1, 1 << shift, min(1<<shift+1, most)} {
			if got := r.Num(); got != n {
				t.Fatal(n, got)
			}
			same(t, "row", r.Bytes(), rows[n%len(rows)])
			same(t, "raw", r.Raw(2), []byte{byte(n), 0xff})
		}
	}
	if !r.Whole() {
		t.Error("left", r.Left())
	}
}

// A number has one form: what a Reader takes is what a Writer lays of it.
func TestOneForm(t *testing.T) {
	for v := range 1 << 16 {
		for _, b := range [][]byte{{byte(v), byte(v >> 8)}, {byte(v) | 0x80, byte(v>>8) | 0x80, 0}, {byte(v) | 0x80, byte(v>>8) | 0x80, 1}} {
			r := octet.NewReader(b)
			n := r.Num()
			if form := laid(func(w *octet.Writer) { w.Nums(n) }); r.Good() && !bytes.Equal(form, b[:len(b)-r.Left()]) {
				t.Fatalf("% x: %d, % x", b, n, form)
			}
		}
	}
}

func TestAnyBytes(t *testing.T) {
	row := muddle(3000)
	for i := range row {
		r := octet.NewReader(row[i:])
		for turn := 0; r.Good(); turn++ {
			left := r.Left()
			switch turn % 3 {
			case 0:
				r.Num()
			case 1:
				r.Raw(1)
			case 2:
				r.Bytes()
			}
			if r.Good() && r.Left() >= left {
				t.Fatal("nothing taken, no error", i, turn)
			}
		}
		if !spent(r) {
			t.Fatal(i)
		}
	}
}

func TestOneByteChangesSum(t *testing.T) {
	for _, n := range []int{1, 2, 5, 64, 300} {
		row := muddle(n)
		sum := octet.Sum(row)
		for i := range row {
			for d := 1; d < 256; d++ {
				row[i] ^= byte(d)
				if octet.Sum(row) == sum {
					t.Fatal(n, i, d)
				}
				row[i] ^= byte(d)
			}
		}
	}
}

func TestHandedInUnchanged(t *testing.T) {
	room := muddle(40)
	p := room[:20] // with spare room behind it
	nums := []int{-1, 3, most + 1}
	var w octet.Writer
	w.Nums(nums...)
	w.Bytes(p, p)
	w.Raw(p...)
	w.Raw(1, 2, 3)
	octet.Join(p, p)
	octet.Sum(p, p)
	r := octet.NewReader(p)
	r.Raw(3)
	r.Num()
	r.Bad()
	if !bytes.Equal(room, muddle(40)) || !slices.Equal(nums, []int{-1, 3, most + 1}) {
		t.Error("changed")
	}
}

func TestHandedInNotKept(t *testing.T) {
	p := []byte{2, 1, 0}
	var w octet.Writer
	w.Raw(p...)
	w.Bytes(p)
	r := octet.NewReader(p)
	j := octet.Join(p)
	spoil(p)
	same(t, "Writer", w.Out(), []byte{2, 1, 0, 3, 2, 1, 0})
	same(t, "Reader", r.Raw(3), []byte{2, 1, 0})
	same(t, "Join", j, []byte{2, 1, 0})
}

func TestAnswersAreNew(t *testing.T) {
	p := []byte{2, 8, 9, 1, 2, 3, 1, 7}
	r := octet.NewReader(p)
	row := r.Bytes()
	spoil(row)
	raw := r.Raw(3)
	same(t, "Raw behind a spoilt row", raw, []byte{1, 2, 3})
	spoil(raw)
	last := r.Bytes()
	same(t, "Bytes behind a spoilt Raw", last, []byte{7})
	spoil(last)
	same(t, "what was handed in", p, []byte{2, 8, 9, 1, 2, 3, 1, 7})

	one, two := []byte{1}, []byte{2}
	spoil(octet.Join(one))
	spoil(octet.Join(one, two))
	same(t, "a row that was Joined", one, []byte{1})
	same(t, "another", two, []byte{2})
}

func TestNilWriter(t *testing.T) {
	var w *octet.Writer
	w.Nums(1, 2)
	w.Bytes([]byte{1}, nil)
	w.Raw(1, 2)
	if len(w.Out()) != 0 {
		t.Error(w.Out())
	}
}

func TestNilReader(t *testing.T) {
	var r *octet.Reader
	r.Bad()
	if !spent(r) {
		t.Error("a nil Reader gives something")
	}
}
