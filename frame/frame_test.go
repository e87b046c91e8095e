package frame_test

import (
	"bytes"
	"encoding/binary"
	"hash/crc32"
	"math"
	"slices"
	"strconv"
	"testing"

	"haystack/api"
	"haystack/frame"
)

// muddle is a row of bytes of all kinds, always the same.
func muddle(n int) []byte {
	p := make([]byte, n)
	x := uint32(1)
	for i := range p {
		x = x*1103515245 + 12345
		p[i] = byte(x >> 16)
	}
	return p
}

// sealed is bytes with their Sum behind them.
func sealed(b ...[]byte) []byte {
	all := slices.Concat(b...)
	return binary.LittleEndian.AppendUint32(all, crc32.ChecksumIEEE(all))
}

// telling is the beginning of a record that tells so many bytes: their number, and the right Sum of it.
func telling(n uint32) []byte { return sealed(binary.LittleEndian.AppendUint32(nil, n)) }

// plain is a record by the chapter's words.
func plain(p ...[]byte) []byte {
	all := slices.Concat(p...)
	return sealed(telling(uint32(len(all))), all)
}

// turned is bytes of which one is another one.
func turned(b []byte, at int, by byte) []byte {
	b = slices.Clone(b)
	b[at] ^= by
	return b
}

// spoil changes a row and the spare room behind its end.
func spoil(p []byte) {
	p = p[:cap(p)]
	for i := range p {
		p[i] ^= 0xff
	}
}

// roomy is bytes in the midst of others: all of these, and the bytes, which have spare room behind their end.
func roomy(p []byte) (all, part []byte) {
	all = slices.Concat(muddle(9), p, muddle(40))
	return all, all[9 : 9+len(p)]
}

func same(t *testing.T, name string, got, want []byte) {
	t.Helper()
	if !bytes.Equal(got, want) {
		t.Errorf("%s: %d bytes, want %d: % x, want % x", name, len(got), len(want), got[:min(len(got), 40)], want[:min(len(want), 40)])
	}
}

// encoded is a record that there must be.
func encoded(t *testing.T, name string, p ...[]byte) []byte {
	t.Helper()
	b, e := frame.Encode(p...)
	if e != api.OK {
		t.Fatalf("%s: Encode: %v", name, e)
	}
	return b
}

// holds tells of bytes of which Decode does not answer that their first n are a record of p.
func holds(t *testing.T, name string, b, p []byte, n int) {
	t.Helper()
	got, long, e := frame.Decode(b)
	if e != api.OK || long != n {
		t.Errorf("%s: Decode: %d bytes, %v, want %d", name, long, e, n)
	}
	same(t, name+": Decode", got, p)
}

// holdsOne tells of bytes of which One does not answer p.
func holdsOne(t *testing.T, name string, b, p []byte) {
	t.Helper()
	got, e := frame.One(b)
	if e != api.OK {
		t.Errorf("%s: One: %v", name, e)
	}
	same(t, name+": One", got, p)
}

// refused tells of anything that Decode or One answer but an error, or that Scan takes.
func refused(t *testing.T, name string, b []byte, want api.Errno) {
	t.Helper()
	if p, n, e := frame.Decode(b); len(p) != 0 || n != 0 || e != want {
		t.Errorf("%s: Decode: %d bytes, %d, %v, want %v", name, len(p), n, e, want)
	}
	if p, e := frame.One(b); len(p) != 0 || e != want {
		t.Errorf("%s: One: %d bytes, %v, want %v", name, len(p), e, want)
	}
	scans(t, name, b, nil, 0)
}

// scans tells of bytes of which Scan does not answer these rows and this number of bytes.
func scans(t *testing.T, name string, b []byte, want [][]byte, n int) {
	t.Helper()
	got, long := frame.Scan(b)
	if long != n || !slices.EqualFunc(got, want, bytes.Equal) {
		t.Errorf("%s: Scan: %d records, %d bytes, want %d, %d", name, len(got), long, len(want), n)
	}
}

// places is all from one up to another, but of many some alone.
func places(from, to int) []int {
	var l []int
	for at := from; at < to; at += 1 + to/2000*97 {
		l = append(l, at)
	}
	return l
}

// rows is what records may hold, of many lengths.
func rows() [][]byte {
	l := [][]byte{nil, {}, {0}, {255}, {0, 0, 0, 0}, bytes.Repeat([]byte{255}, 12), make([]byte, 300), plain(), plain([]byte("x"))}
	for _, n := range []int{2, 3, 4, 5, 7, 8, 9, 11, 12, 13, 127, 128, 129, 254, 255, 256, 257, 258, 511, 512, 1000, 1<<16 - 1, 1 << 16, 1<<16 + 1} {
		l = append(l, muddle(n))
	}
	return l
}

// P8.1, Encode

func TestExample(t *testing.T) {
	if n := len(encoded(t, "nothing")); n != 12 {
		t.Error(n)
	}
}

func TestBytesOfARecord(t *testing.T) {
	for _, c := range []struct {
		rows [][]byte
		want []byte
	}{
		{nil, []byte{0, 0, 0, 0, 0x1c, 0xdf, 0x44, 0x21, 0x1c, 0xdf, 0x44, 0x21}},
		{[][]byte{nil}, []byte{0, 0, 0, 0, 0x1c, 0xdf, 0x44, 0x21, 0x1c, 0xdf, 0x44, 0x21}},
		{[][]byte{{0}}, []byte{1, 0, 0, 0, 0x79, 0xb8, 0xf8, 0x99, 0, 0x1d, 0xf7, 0x22, 0xc6}},
		{[][]byte{{'a'}}, []byte{1, 0, 0, 0, 0x79, 0xb8, 0xf8, 0x99, 'a', 0xd3, 0xa6, 0x97, 0xfc}},
		{[][]byte{{'1'}, {'2', '3'}}, []byte{3, 0, 0, 0, 0xf2, 0x70, 0xf1, 0x33, '1', '2', '3', 0xbe, 0x65, 0x65, 0xea}},
		{[][]byte{nil, {'1', '2'}, {}, {'3'}, nil}, []byte{3, 0, 0, 0, 0xf2, 0x70, 0xf1, 0x33, '1', '2', '3', 0xbe, 0x65, 0x65, 0xea}},
	} {
		name := strconv.Itoa(len(c.rows)) + " rows"
		same(t, name, encoded(t, name, c.rows...), c.want)
		same(t, "plain record of "+name, plain(c.rows...), c.want)
	}
	b := encoded(t, "258 bytes", bytes.Repeat([]byte("x"), 258))
	same(t, "258 bytes, the first", b[:9], []byte{2, 1, 0, 0, 0xa0, 0x7d, 0x8f, 0x8a, 'x'})
	same(t, "258 bytes, the last", b[265:], []byte{'x', 0xa0, 0x06, 0xc2, 0x59})
}

func TestEncodeOne(t *testing.T) {
	for _, p := range rows() {
		name := strconv.Itoa(len(p)) + " bytes"
		same(t, name, encoded(t, name, p), plain(p))
	}
}

func TestEncodeSeveral(t *testing.T) {
	same(t, "empty rows", encoded(t, "empty rows", nil, []byte{}, nil), plain())
	l := rows()
	same(t, "many rows", encoded(t, "many rows", l...), plain(l...))
	p := muddle(100)
	for i := range p {
		name := "parted at " + strconv.Itoa(i)
		same(t, name, encoded(t, name, p[:i], p[i:]), plain(p))
		same(t, name+", empty rows about", encoded(t, name, nil, p[:i], nil, p[i:], nil), plain(p))
	}
	var single [][]byte
	for i := range p {
		single = append(single, p[i:i+1])
	}
	same(t, "a row a byte", encoded(t, "a row a byte", single...), plain(p))
}

func TestEncodeMost(t *testing.T) {
	most := muddle(api.MaxFrame)
	want := plain(most)
	thousand := slices.Collect(slices.Chunk(most, 1<<10))
	for _, c := range []struct {
		name string
		rows [][]byte
	}{
		{"one row", [][]byte{most}},
		{"two rows", [][]byte{most[:1], most[1:]}},
		{"two rows, one byte last", [][]byte{most[:api.MaxFrame-1], most[api.MaxFrame-1:]}},
		{"empty rows among", [][]byte{nil, most[:7], nil, most[7:], nil, {}}},
		{"1024 rows", thousand},
	} {
		b := encoded(t, c.name, c.rows...)
		same(t, c.name, b, want)
		holds(t, c.name, b, most, api.MaxFrame+12)
		holdsOne(t, c.name, b, most)
		scans(t, c.name, b, [][]byte{most}, api.MaxFrame+12)
	}
}

func TestEncodeTooMuch(t *testing.T) {
	more := muddle(api.MaxFrame + 1)
	for _, c := range []struct {
		name string
		rows [][]byte
	}{
		{"one row", [][]byte{more}},
		{"one byte first", [][]byte{more[:1], more[1:]}},
		{"one byte last", [][]byte{more[1:], more[:1]}},
		{"empty rows behind", [][]byte{nil, more, nil, {}}},
		{"few bytes behind", [][]byte{more, {1}}},
		{"1025 rows", append(slices.Collect(slices.Chunk(more[1:], 1<<10)), more[:1])},
		{"twice as much", [][]byte{more[1:], more[1:]}},
		{"nearly 2^31 bytes", slices.Repeat([][]byte{more[1:]}, 1<<11-1)},
		{"a long row", [][]byte{make([]byte, 5*api.MaxFrame)}},
	} {
		if b, e := frame.Encode(c.rows...); len(b) != 0 || e != api.ErrLong {
			t.Errorf("%s: %d bytes, %v", c.name, len(b), e)
		}
	}
}

// P8.1, Decode and One: errors, in the chapter's order

func TestFewerThanEight(t *testing.T) {
	refused(t, "nil", nil, api.ErrShort)
	for _, b := range [][]byte{plain(), plain([]byte("abc")), make([]byte, 8), muddle(8), telling(api.MaxFrame + 1), telling(math.MaxUint32), turned(plain(), 0, 1)} {
		for n := range 8 {
			refused(t, strconv.Itoa(n)+" bytes", b[:n], api.ErrShort)
		}
	}
}

func TestFirstSum(t *testing.T) {
	for _, n := range []uint32{0, 1, 5, 300, api.MaxFrame, api.MaxFrame + 1, 1 << 31, math.MaxUint32} {
		for at := range 8 {
			for _, by := range []byte{1, 0x10, 0x80, 0xff} {
				name := strconv.Itoa(int(n)) + " told, byte " + strconv.Itoa(at) + " another one"
				b := turned(telling(n), at, by)
				refused(t, name+", eight bytes", b, api.ErrSum)
				refused(t, name+", nine bytes", append(slices.Clone(b), 0), api.ErrSum)
				refused(t, name+", many behind", slices.Concat(b, muddle(500)), api.ErrSum)
				// Nothing but the first Sum is wrong here.
				refused(t, name+", whole else", sealed(b, muddle(int(min(n, 300)))), api.ErrSum)
			}
		}
	}
	for _, b := range [][]byte{make([]byte, 8), make([]byte, 40), bytes.Repeat([]byte{254}, 40), muddle(40), bytes.Repeat([]byte("text"), 9)} {
		refused(t, "no record", b, api.ErrSum)
	}
	for _, n := range []uint32{1, 258, 1 << 16} {
		length := binary.LittleEndian.AppendUint32(nil, n)
		b := binary.BigEndian.AppendUint32(slices.Clone(length), crc32.ChecksumIEEE(length))
		refused(t, "the highest byte of the Sum first", sealed(b, muddle(int(n))), api.ErrSum)
		b = binary.LittleEndian.AppendUint32(slices.Clone(length), ^crc32.ChecksumIEEE(length))
		refused(t, "the Sum's digits not turned", sealed(b, muddle(int(n))), api.ErrSum)
	}
}

func TestTooLongTold(t *testing.T) {
	for _, n := range []uint32{api.MaxFrame + 1, api.MaxFrame + 2, 2 * api.MaxFrame, 1<<24 + 5, 1<<31 - 1, 1 << 31, 1<<31 + 5, math.MaxUint32 - 11, math.MaxUint32 - 1, math.MaxUint32} {
		name := strconv.Itoa(int(n)) + " told"
		refused(t, name+", eight bytes", telling(n), api.ErrLong)
		refused(t, name+", nine bytes", append(telling(n), 7), api.ErrLong)
		refused(t, name+", twelve bytes, their Sum right", sealed(telling(n)), api.ErrLong)
		refused(t, name+", some behind", slices.Concat(telling(n), muddle(300)), api.ErrLong)
	}
	// The Sum of four bytes 255 is four bytes 255.
	refused(t, "bytes 255 alone", bytes.Repeat([]byte{255}, 40), api.ErrLong)
	more := muddle(api.MaxFrame + 1)
	refused(t, "all there", plain(more), api.ErrLong)
	refused(t, "all there, the last Sum wrong", turned(plain(more), api.MaxFrame+12, 1), api.ErrLong)
	refused(t, "all there, more behind", slices.Concat(plain(more), plain()), api.ErrLong)
	refused(t, "the highest byte first", sealed(sealed([]byte{0, 0, 1, 0}), muddle(256)), api.ErrShort)
	refused(t, "the highest byte first, too long", sealed(sealed([]byte{0, 0, 0, 1}), muddle(1)), api.ErrLong)
}

func TestNotAllThere(t *testing.T) {
	for _, p := range rows() {
		b := plain(p)
		for _, n := range places(8, len(b)) {
			refused(t, strconv.Itoa(n)+" of "+strconv.Itoa(len(b))+" bytes", b[:n], api.ErrShort)
			// A Sum that is wrong is told of a record alone that is all there.
			refused(t, strconv.Itoa(n)+" other ones of "+strconv.Itoa(len(b))+" bytes", append(telling(uint32(len(p))), muddle(n-8)...), api.ErrShort)
		}
		refused(t, "all but the last byte", b[:len(b)-1], api.ErrShort)
	}
	for long := range 20 {
		for told := long + 1; told < 40; told++ {
			name := strconv.Itoa(told) + " told, " + strconv.Itoa(long) + " there"
			refused(t, name, sealed(telling(uint32(told)), muddle(long)), api.ErrShort)
		}
	}
	for _, told := range []uint32{1 << 8, 1 << 16, api.MaxFrame - 1, api.MaxFrame} {
		name := strconv.Itoa(int(told)) + " told, "
		refused(t, name+"eight bytes", telling(told), api.ErrShort)
		refused(t, name+"none there, the Sum right", sealed(telling(told)), api.ErrShort)
		refused(t, name+"one fewer there, the Sum right", sealed(telling(told), muddle(int(told)-1)), api.ErrShort)
	}
}

func TestLastSum(t *testing.T) {
	for _, p := range rows() {
		b := plain(p)
		for _, at := range places(8, len(b)) {
			name := "byte " + strconv.Itoa(at) + " of " + strconv.Itoa(len(b)) + " another one"
			refused(t, name, turned(b, at, byte(1+at%255)), api.ErrSum)
			refused(t, name+", more behind", append(turned(b, at, byte(1+at%255)), b...), api.ErrSum)
		}
		body := append(telling(uint32(len(p))), p...)
		sum := crc32.ChecksumIEEE(body)
		if len(p) > 0 {
			refused(t, "the Sum of what it holds alone", binary.LittleEndian.AppendUint32(slices.Clone(body), crc32.ChecksumIEEE(p)), api.ErrSum)
		}
		refused(t, "the highest byte of the Sum first", binary.BigEndian.AppendUint32(slices.Clone(body), sum), api.ErrSum)
		refused(t, "the Sum's digits not turned", binary.LittleEndian.AppendUint32(slices.Clone(body), ^sum), api.ErrSum)
	}
	for told := range 20 {
		for long := told + 1; long < 40; long++ {
			name := strconv.Itoa(told) + " told, " + strconv.Itoa(long) + " there"
			refused(t, name, sealed(telling(uint32(told)), muddle(long)), api.ErrSum)
		}
	}
	b := plain(muddle(api.MaxFrame))
	refused(t, "the longest, its last byte another one", turned(b, len(b)-1, 1), api.ErrSum)
	refused(t, "the longest, a byte in its midst another one", turned(b, len(b)/2, 0x80), api.ErrSum)
	refused(t, "the longest, all but its last byte", b[:len(b)-1], api.ErrShort)
}

// P8.1, Decode and One: what is whole

// behind is what may stand behind a record.
func behind() [][]byte {
	return [][]byte{{0}, {255}, make([]byte, 7), make([]byte, 12), muddle(8), muddle(100), plain(), plain([]byte("next")), plain(muddle(300))[:50], turned(plain([]byte("next")), 9, 1), telling(math.MaxUint32)}
}

func TestWhole(t *testing.T) {
	for _, p := range rows() {
		name := strconv.Itoa(len(p)) + " bytes"
		b := plain(p)
		holds(t, name, b, p, len(p)+12)
		holdsOne(t, name, b, p)
		for i, more := range behind() {
			name := name + ", " + strconv.Itoa(i) + " behind"
			all := slices.Concat(b, more)
			holds(t, name, all, p, len(p)+12)
			if got, e := frame.One(all); len(got) != 0 || e != api.ErrForm {
				t.Errorf("%s: One: %d bytes, %v", name, len(got), e)
			}
		}
	}
	b := slices.Concat(plain(muddle(api.MaxFrame)), []byte{1})
	holds(t, "the longest, one byte behind", b, muddle(api.MaxFrame), api.MaxFrame+12)
	if got, e := frame.One(b); len(got) != 0 || e != api.ErrForm {
		t.Errorf("the longest, one byte behind: One: %d bytes, %v", len(got), e)
	}
}

// P8.2

func TestScan(t *testing.T) {
	scans(t, "nil", nil, nil, 0)
	scans(t, "nothing", []byte{}, nil, 0)
	for _, p := range rows() {
		scans(t, "one of "+strconv.Itoa(len(p)), plain(p), [][]byte{p}, len(p)+12)
	}
	for _, n := range []int{1, 2, 3, 100} {
		scans(t, strconv.Itoa(n)+" of nothing", bytes.Repeat(plain(), n), make([][]byte, n), n*12)
	}
	b, _ := joined(rows())
	scans(t, "many", b, rows(), len(b))
	long := [][]byte{nil, []byte("ahead"), muddle(api.MaxFrame), nil, []byte("behind")}
	b, _ = joined(long)
	scans(t, "the longest among others", b, long, len(b))
}

// joined is the records of rows, one behind the other, and where each ends, from none of them on.
func joined(rows [][]byte) (b []byte, ends []int) {
	ends = []int{0}
	for _, p := range rows {
		b = append(b, plain(p)...)
		ends = append(ends, len(b))
	}
	return b, ends
}

func TestScanOfVeryMany(t *testing.T) {
	var l [][]byte
	for i := range 20000 {
		l = append(l, muddle(i%23))
	}
	b, ends := joined(l)
	scans(t, "whole", b, l, len(b))
	scans(t, "the last one cut short", b[:len(b)-1], l[:len(l)-1], ends[len(l)-1])
}

func TestScanToTheFirstThatErrs(t *testing.T) {
	l := [][]byte{[]byte("first"), nil, {0}, muddle(30), []byte("last")}
	b, ends := joined(l)
	for i := range l {
		for at := ends[i]; at < ends[i+1]; at++ {
			for _, by := range []byte{1, 0x80, 0xff} {
				scans(t, "record "+strconv.Itoa(i)+", byte "+strconv.Itoa(at)+" another one", turned(b, at, by), l[:i], ends[i])
			}
		}
		for n := ends[i]; n < ends[i+1]; n++ {
			scans(t, "cut short at "+strconv.Itoa(n), b[:n], l[:i], ends[i])
		}
		without := slices.Concat(b[:ends[i]], b[ends[i]+1:])
		scans(t, "record "+strconv.Itoa(i)+" without its first byte", without, l[:i], ends[i])
	}
}

func TestScanToWhatIsNoRecord(t *testing.T) {
	l := [][]byte{nil, []byte("good"), muddle(300)}
	for n := range len(l) + 1 {
		good, ends := joined(l[:n])
		for i, bad := range [][]byte{{0}, {255}, make([]byte, 7), make([]byte, 8), make([]byte, 100), bytes.Repeat([]byte{255}, 100), muddle(7), muddle(100),
			telling(0), telling(5), telling(api.MaxFrame), telling(api.MaxFrame + 1), telling(math.MaxUint32), sealed(telling(5), muddle(4)), sealed(telling(5), muddle(6)), plain(muddle(api.MaxFrame + 1))} {
			name := strconv.Itoa(n) + " good ones, then " + strconv.Itoa(i)
			scans(t, name, slices.Concat(good, bad), l[:n], ends[n])
			if len(bad) >= 100 {
				scans(t, name+", then good ones", slices.Concat(good, bad, plain(), plain([]byte("good"))), l[:n], ends[n])
			}
		}
	}
}

// P8.3

func TestDecodedAsEncoded(t *testing.T) {
	l := rows()
	for n := range 300 {
		l = append(l, muddle(n))
	}
	for _, p := range l {
		name := strconv.Itoa(len(p)) + " bytes"
		b := encoded(t, name, p)
		holds(t, name, b, p, len(b))
		holdsOne(t, name, b, p)
		parts := encoded(t, name, p[:len(p)/3], nil, p[len(p)/3:])
		holdsOne(t, name+" in parts", parts, p)
		for i, more := range append(behind(), b) {
			holds(t, name+", "+strconv.Itoa(i)+" behind", slices.Concat(b, more), p, len(b))
		}
		scans(t, name+", a record of it in a record", slices.Concat(b, encoded(t, name, b), b), [][]byte{p, b, p}, 3*len(b)+12)
	}
}

func TestOneByteAnother(t *testing.T) {
	for _, p := range [][]byte{nil, {0}, {255}, []byte("abc"), muddle(40), make([]byte, 40)} {
		b := encoded(t, "record", p)
		for at := range b {
			for by := 1; by < 256; by++ {
				broken(t, turned(b, at, byte(by)), at, by)
				broken(t, append(turned(b, at, byte(by)), b...), at, by)
			}
		}
	}
	b := encoded(t, "record", muddle(3000))
	for at := range b {
		broken(t, turned(b, at, byte(1+at%255)), at, 1+at%255)
	}
}

// broken tells of a record that Decode, One or Scan takes though a byte of it is another one.
func broken(t *testing.T, b []byte, at, by int) {
	t.Helper()
	p, n, e := frame.Decode(b)
	q, f := frame.One(b)
	l, long := frame.Scan(b)
	if e == api.OK || f != e || len(p) != 0 || n != 0 || len(q) != 0 || len(l) != 0 || long != 0 {
		t.Errorf("%d bytes, byte %d turned by %x: Decode %v, One %v, Scan %d", len(b), at, by, e, f, len(l))
	}
}

// plainDecode is Decode by the chapter's words.
func plainDecode(b []byte) ([]byte, int, api.Errno) {
	if len(b) < 8 {
		return nil, 0, api.ErrShort
	}
	told := int(binary.LittleEndian.Uint32(b))
	switch {
	case !bytes.Equal(b[:8], telling(uint32(told))):
		return nil, 0, api.ErrSum
	case told > api.MaxFrame:
		return nil, 0, api.ErrLong
	case len(b) < told+12:
		return nil, 0, api.ErrShort
	case !bytes.Equal(b[:told+12], sealed(b[:told+8])):
		return nil, 0, api.ErrSum
	}
	return b[8 : told+8], told + 12, api.OK
}

// Bytes of all kinds, most of them nearly records: nothing panics, and each is taken or refused as the words say.
func TestAnyBytes(t *testing.T) {
	x := uint32(7)
	draw := func(n int) int {
		x = x*1664525 + 1013904223
		return int(x>>8) % n
	}
	for range 20000 {
		var b []byte
		for range draw(4) {
			switch draw(5) {
			case 0:
				b = append(b, muddle(draw(30))...)
			case 1:
				b = append(b, telling(uint32(draw(40)))...)
			case 2:
				b = sealed(b, telling(uint32(draw(20))), muddle(draw(20)))
			default:
				b = append(b, plain(muddle(draw(30)))...)
			}
		}
		if len(b) > 0 && draw(3) == 0 {
			b = turned(b, draw(len(b)), byte(draw(256)))
		}
		b = b[:len(b)-draw(3)*draw(len(b)+1)/3]
		anyBytes(t, b)
	}
}

// anyBytes tells of bytes that are not taken or refused as the words say.
func anyBytes(t *testing.T, b []byte) {
	t.Helper()
	p, n, e := plainDecode(b)
	one := e
	if e == api.OK && n < len(b) {
		one = api.ErrForm
	}
	got, long, f := frame.Decode(b)
	if !bytes.Equal(got, p) || long != n || f != e {
		t.Errorf("Decode of % x: % x, %d, %v, want % x, %d, %v", b, got, long, f, p, n, e)
	}
	got, f = frame.One(b)
	if f != one || len(got) != 0 && one != api.OK || one == api.OK && !bytes.Equal(got, p) {
		t.Errorf("One of % x: % x, %v, want %v", b, got, f, one)
	}
	var want [][]byte
	at := 0
	for ; e == api.OK; p, n, e = plainDecode(b[at:]) {
		want = append(want, p)
		at += n
	}
	scans(t, "any bytes", b, want, at)
}

func TestHandedInUnchanged(t *testing.T) {
	for _, p := range [][]byte{nil, []byte("row"), muddle(300)} {
		all, row := roomy(p)
		was := slices.Clone(all)
		list := [][]byte{row, nil, row, []byte("spare"), nil, []byte("room")}
		encoded(t, "of two", list[:2]...)
		encoded(t, "of one", list[:1]...)
		encoded(t, "of none", list[:0]...)
		encoded(t, "of the same twice", list[:3]...)
		same(t, "rows and their room behind Encode", all, was)
		if len(list[0]) != len(p) || list[1] != nil || len(list[2]) != len(p) || string(list[3]) != "spare" || list[4] != nil || string(list[5]) != "room" {
			t.Error("the list of rows is another one behind Encode")
		}
		for _, b := range [][]byte{plain(p), append(plain(p), plain(p)...), turned(plain(p), 10, 1), plain(p)[:9], telling(math.MaxUint32)} {
			all, b := roomy(b)
			was := slices.Clone(all)
			frame.Decode(b)
			frame.One(b)
			frame.Scan(b)
			same(t, "bytes and their room behind Decode, One, Scan", all, was)
		}
	}
	all, row := roomy(muddle(api.MaxFrame))
	was := slices.Clone(all)
	frame.Encode(row, []byte("more"))
	same(t, "rows and their room behind an Encode of too much", all, was)
}

func TestHandedInNotKept(t *testing.T) {
	head, body := []byte("head"), []byte("body")
	list := [][]byte{head, body}
	b := encoded(t, "record", list...)
	spoil(head)
	spoil(body)
	list[0], list[1] = nil, nil
	same(t, "Encode", b, plain([]byte("headbody")))

	for _, want := range [][]byte{{7}, []byte("headbody"), muddle(300)} {
		b := plain(want)
		p, _, _ := frame.Decode(b)
		q, _ := frame.One(b)
		l, _ := frame.Scan(b)
		spoil(b)
		same(t, "Decode", p, want)
		same(t, "One", q, want)
		if len(l) != 1 {
			t.Fatal("Scan", len(l))
		}
		same(t, "Scan", l[0], want)
	}
}

func TestEncodeIsNew(t *testing.T) {
	for _, p := range [][]byte{nil, {}, {7}, muddle(300)} {
		all, row := roomy(p)
		was := slices.Clone(all)
		first, second := encoded(t, "first", row), encoded(t, "second", row)
		spoil(first)
		same(t, "the row behind a record of it that is spoilt", all, was)
		same(t, "a second record", second, plain(p))
		spoil(second)
		same(t, "a third record", encoded(t, "third", row), plain(p))
	}
	spoil(encoded(t, "nothing"))
	same(t, "nothing", encoded(t, "nothing"), plain())
	b := encoded(t, "record", []byte("abc"))
	spoil(encoded(t, "a record's record", b))
	same(t, "a record whose record is spoilt", b, plain([]byte("abc")))
}

func TestDecodeIsNew(t *testing.T) {
	for _, p := range [][]byte{nil, {7}, muddle(300)} {
		for _, more := range [][]byte{nil, {1}, plain([]byte("next"))} {
			all, b := roomy(slices.Concat(plain(p), more))
			was := slices.Clone(all)
			first, _, _ := frame.Decode(b)
			second, _, _ := frame.Decode(b)
			spoil(first)
			same(t, "bytes of which what they hold is spoilt", all, was)
			same(t, "a second Decode", second, p)
		}
		all, b := roomy(plain(p))
		was := slices.Clone(all)
		first, _ := frame.One(b)
		second, _ := frame.One(b)
		spoil(first)
		same(t, "bytes of which the one thing they hold is spoilt", all, was)
		same(t, "a second One", second, p)
	}
}

func TestScanIsNew(t *testing.T) {
	for _, l := range [][][]byte{{nil}, {[]byte("one")}, {[]byte("one"), nil, []byte("two"), muddle(300), nil, []byte("three")}} {
		b, _ := joined(l)
		all, b := roomy(b)
		was := slices.Clone(all)
		first, _ := frame.Scan(b)
		second, _ := frame.Scan(b)
		if len(first) != len(l) || len(second) != len(l) {
			t.Fatal(len(first), len(second))
		}
		for i := range first {
			spoil(first[i])
			same(t, "bytes of which a row they hold is spoilt", all, was)
			for j := i + 1; j < len(first); j++ {
				same(t, "a row behind a spoilt one", first[j], l[j])
			}
			same(t, "a row of a second Scan", second[i], l[i])
		}
		room := first[:cap(first)]
		for i := range room {
			room[i] = []byte("spoilt")
		}
		if !slices.EqualFunc(second, l, bytes.Equal) {
			t.Error("a second Scan behind a spoilt list")
		}
		scans(t, "a third Scan", b, l, len(b))
	}
}
