package keep_test

import (
	"bytes"
	"cmp"
	"encoding/binary"
	"fmt"
	"hash/crc32"
	"math"
	"slices"
	"strconv"
	"strings"
	"testing"

	"haystack/api"
	"haystack/disk"
	"haystack/keep"
)

const wide = 1 << 30 // the greatest room of a disk

// muddle is a row of bytes of all kinds, always the same.
func muddle(n int) []byte {
	p := make([]byte, n)
	x := uint32(1)
	for i := range p {
		x = x*1103515245 + 12345
		p[i] = byte(x >> 16)
	}
	return p
}

// sealed is bytes with their Sum behind them.
func sealed(b []byte) []byte {
	return binary.LittleEndian.AppendUint32(slices.Clone(b), crc32.ChecksumIEEE(b))
}

// plain is the record of rows by chapter 8's words.
func plain(p ...[]byte) []byte {
	all := slices.Concat(p...)
	head := sealed(binary.LittleEndian.AppendUint32(nil, uint32(len(all))))
	return sealed(slices.Concat(head, all))
}

// record is the record of a text.
func record(text string) string { return string(plain([]byte(text))) }

// turned is bytes of which one is another one.
func turned(b []byte, at int, by byte) []byte {
	b = slices.Clone(b)
	b[at] ^= by
	return b
}

// file is a file of a disk: its name, the bytes that last, and the others.
type file struct{ name, lasts, others string }

// whole is a file of which all lasts.
func whole(name, lasts string) file { return file{name, lasts, ""} }

// saved is a file as Save leaves it.
func saved(name, text string) file { return whole(name, record(text)) }

func (f file) String() string {
	return fmt.Sprintf("%q: %s|%s", f.name, short(f.lasts), short(f.others))
}

// short is a text for a message.
func short(text string) string {
	return fmt.Sprintf("%d %q", len(text), text[:min(len(text), 40)])
}

// ok tells of an error.
func ok(t *testing.T, e api.Errno) {
	t.Helper()
	if e != api.OK {
		t.Error(e)
	}
}

// answers tells of an error that is not the one that is asked for.
func answers(t *testing.T, what string, e, want api.Errno) {
	t.Helper()
	if e != want {
		t.Errorf("%s: %v, want %v", what, e, want)
	}
}

// laid is a disk of a room with these files.
func laid(t *testing.T, room int, files ...file) *disk.Disk {
	t.Helper()
	d, e := disk.New(room)
	ok(t, e)
	for _, f := range files {
		ok(t, d.Append(f.name, []byte(f.lasts)))
		ok(t, d.Sync(f.name))
		ok(t, d.Append(f.name, []byte(f.others)))
	}
	return d
}

// read is the bytes of a file that must be there.
func read(t *testing.T, d *disk.Disk, name string) string {
	t.Helper()
	b, e := d.Read(name)
	answers(t, "Read of "+name, e, api.OK)
	return string(b)
}

// there is all files of a disk; what lasts is told by a crash of a copy.
func there(t *testing.T, d *disk.Disk) []file {
	t.Helper()
	c := d.Copy()
	c.Crash(0)
	var l []file
	for _, name := range d.List() {
		lasts := read(t, c, name)
		l = append(l, file{name, lasts, strings.TrimPrefix(read(t, d, name), lasts)})
	}
	return l
}

// is tells of a disk whose files are not these.
func is(t *testing.T, what string, d *disk.Disk, want ...file) {
	t.Helper()
	want = slices.SortedFunc(slices.Values(want), func(a, b file) int { return cmp.Compare(a.name, b.name) })
	if got := there(t, d); !slices.Equal(got, want) {
		t.Errorf("%s: %v, want %v", what, got, want)
	}
}

// loads tells of a file of which Load does not answer these bytes.
func loads(t *testing.T, what string, d *disk.Disk, name, want string) {
	t.Helper()
	p, e := keep.Load(d, name)
	if e != api.OK || string(p) != want {
		t.Errorf("%s: Load of %q: %s, %v, want %s", what, name, short(string(p)), e, short(want))
	}
}

// loadsNot tells of a file of which Load does not answer just an error.
func loadsNot(t *testing.T, what string, d *disk.Disk, name string, want api.Errno) {
	t.Helper()
	p, e := keep.Load(d, name)
	if e != want || len(p) != 0 {
		t.Errorf("%s: Load of %q: %s, %v, want %v", what, name, short(string(p)), e, want)
	}
}

// goodNames is names under which a file may be saved, of any bytes.
func goodNames() []string {
	return []string{
		"a", "\x00", " ", ".", "/", "a/b", "a-1", "~", "~~", "a~", "\x7f", "\x80", "\xff",
		strings.Repeat("n", 59), strings.Repeat("n", 60), strings.Repeat("\xff", 60), strings.Repeat("ä", 30), strings.Repeat("~", 60),
	}
}

// badNames is texts that are none: of no byte, of more than 60 bytes, though it be of fewer signs.
func badNames() []string {
	return []string{
		"", strings.Repeat("n", 61), strings.Repeat("n", 62), strings.Repeat("n", 63), strings.Repeat("n", 64), strings.Repeat("n", 65),
		strings.Repeat("\x00", 61), strings.Repeat("ä", 31), strings.Repeat("n", 1<<12), strings.Repeat("n", 60) + "~",
	}
}

// contents is what files may hold: no row, rows without a byte, several rows.
func contents() [][][]byte {
	return [][][]byte{
		nil, {}, {nil}, {{}}, {nil, {}, nil}, {{0}}, {{255}}, {[]byte("~")}, {[]byte("12"), []byte("3")}, {[]byte("3"), nil, []byte("12")},
		{[]byte("1"), []byte("1"), []byte("1")}, {plain()}, {plain([]byte("x")), plain([]byte("y"))}, {muddle(255)}, {muddle(256), muddle(1)},
		{muddle(1 << 16), nil, muddle(1<<16 + 1), []byte("end")}, slices.Repeat([][]byte{muddle(7)}, 1000),
	}
}

// P11.1

func TestSave(t *testing.T) {
	for i, p := range contents() {
		what := "content " + strconv.Itoa(i)
		want := string(slices.Concat(p...))
		d := laid(t, wide, whole("b", "1"))
		ok(t, keep.Save(d, "a", p...))
		is(t, what, d, saved("a", want), whole("b", "1"))
		loads(t, what, d, "a", want)
		for j, q := range contents() {
			what := what + ", then " + strconv.Itoa(j)
			d := d.Copy()
			want := string(slices.Concat(q...))
			ok(t, keep.Save(d, "a", q...))
			is(t, what, d, saved("a", want), whole("b", "1"))
			loads(t, what, d, "a", want)
		}
	}
}

func TestSaveNames(t *testing.T) {
	for _, name := range goodNames() {
		what := fmt.Sprintf("%q", name)
		d := laid(t, wide)
		ok(t, keep.Save(d, name, []byte("old")))
		is(t, what, d, saved(name, "old"))
		ok(t, keep.Save(d, name, []byte("new")))
		is(t, what, d, saved(name, "new"))
		loads(t, what, d, name, "new")
	}
}

func TestSaveOfWhatIsNotToBe(t *testing.T) {
	long := slices.Repeat([][]byte{muddle(1 << 10)}, api.MaxFrame>>10+1)
	sixty := strings.Repeat("n", 60)
	files := []file{{"a", "1", "2"}, {sixty, "3", "4"}, {sixty + "~", "5", "6"}, {"~", "7", "8"}}
	for _, bad := range badNames() {
		for _, p := range append(contents(), long) {
			for _, fuse := range []int{-1, 0, 1} {
				what := fmt.Sprintf("Save of %q, Fuse(%d)", bad, fuse)
				d := laid(t, 8, files...) // there is no room for any record
				d.Fuse(fuse)
				answers(t, what, keep.Save(d, bad, p...), api.ErrArg)
				answers(t, what+", one more", d.Sync("a"), burnt(fuse, 1))
				d.Fuse(-1)
			}
			d := laid(t, 8, files...)
			answers(t, strconv.Quote(bad), keep.Save(d, bad, p...), api.ErrArg)
			is(t, fmt.Sprintf("Save of %q", bad), d, files...)
		}
	}
	for _, name := range append(goodNames(), badNames()...) {
		answers(t, "Save, no disk", keep.Save(nil, name), api.ErrArg)
		answers(t, "Save, no disk", keep.Save(nil, name, []byte("12"), []byte("3")), api.ErrArg)
		answers(t, "Save, no disk, too long", keep.Save(nil, name, long...), api.ErrArg)
	}
}

// burnt is what the last of so many answers, where a fuse lets the first ones be done.
func burnt(fuse, many int) api.Errno {
	if fuse >= 0 && many > fuse {
		return api.ErrDead
	}
	return api.OK
}

func TestSaveOfTheMost(t *testing.T) {
	row := muddle(api.MaxFrame)
	for i, p := range [][][]byte{{row}, {row[:1], row[1:]}, {nil, row, nil}, {row[:api.MaxFrame/2], row[api.MaxFrame/2:]}, slices.Collect(slices.Chunk(row, 1<<10))} {
		what := "the most, " + strconv.Itoa(i)
		d := laid(t, wide, saved("a", "old"))
		ok(t, keep.Save(d, "a", p...))
		is(t, what, d, saved("a", string(row)))
		loads(t, what, d, "a", string(row))
	}
}

func TestSaveOfMore(t *testing.T) {
	row := muddle(api.MaxFrame + 1)
	files := []file{saved("a", "old"), {"a~", "12", "3"}, {"b", "4", "5"}}
	for i, p := range [][][]byte{{row}, {row[:1], row[1:]}, {nil, row[1:], row[:1]}, slices.Collect(slices.Chunk(row, 1<<10)), slices.Repeat([][]byte{row}, 1<<12)} {
		for _, fuse := range []int{-1, 0, 1, 9} {
			what := fmt.Sprintf("more than the most, %d, Fuse(%d)", i, fuse)
			d := laid(t, 100, files...) // room or not, with a burnt fuse or not
			d.Fuse(fuse)
			answers(t, what, keep.Save(d, "a", p...), api.ErrLong)
			answers(t, what+", new", keep.Save(d, "new", p...), api.ErrLong)
			is(t, what, d, files...)
			answers(t, what+", one more", d.Sync("a~"), burnt(fuse, 1)) // it did not burn the fuse
		}
	}
}

func TestSaveWithWhatIsLeftOver(t *testing.T) {
	for _, left := range []file{whole("a~", ""), whole("a~", "12"), {"a~", "", "12"}, {"a~", "1", "2"}, saved("a~", "left"), {"a~", record("left"), record("over")}, {"a~", string(muddle(300)), "more"}} {
		for _, files := range [][]file{nil, {saved("a", "old")}, {{"a", "no", " record"}}, {whole("a", "")}} {
			what := fmt.Sprintf("%v left over of %v", left, files)
			others := []file{{"A~", "1", "2"}, {"a~~", "3", "4"}, {"a~1", "5", "6"}, {"b", "7", "8"}, {"b~", "9", "0"}, {"~", "x", "y"}, {"~a", "z", "!"}}
			d := laid(t, wide, slices.Concat(files, others, []file{left})...)
			ok(t, keep.Save(d, "a", []byte("new")))
			is(t, what, d, append(others, saved("a", "new"))...)
			loads(t, what, d, "a", "new")
		}
	}
}

// step is what a Save answers with a fuse, and the files behind it.
type step struct {
	e     api.Errno
	files []file
}

// A fuse burns at each of the steps; the other files stay as they are.
func TestSaveByFuses(t *testing.T) {
	left, half, synced := file{"a~", "1", "2"}, file{"a~", "", record("new")}, saved("a~", "new")
	other := file{"b~", "3", "4"}
	for _, old := range [][]file{nil, {saved("a", "old")}, {saved("a", "")}, {{"a", "1", "2"}}, {whole("a", "")}} {
		with := func(more ...file) []file { return slices.Concat(old, []file{other}, more) }
		end := step{api.OK, []file{saved("a", "new"), other}}
		stepsOf(t, with(), []step{{api.ErrDead, with()}, {api.ErrDead, with(half)}, {api.ErrDead, with(synced)}, end, end, end})
		stepsOf(t, with(left), []step{{api.ErrDead, with(left)}, {api.ErrDead, with()}, {api.ErrDead, with(half)}, {api.ErrDead, with(synced)}, end, end, end})
	}
}

// stepsOf tells where a Save of new as a, with fuses from 0 on, goes other ways.
func stepsOf(t *testing.T, files []file, steps []step) {
	t.Helper()
	need := slices.IndexFunc(steps, func(s step) bool { return s.e == api.OK })
	for fuse, s := range steps {
		what := fmt.Sprintf("of %v, Fuse(%d)", files, fuse)
		d := laid(t, wide, files...)
		d.Fuse(fuse)
		answers(t, what, keep.Save(d, "a", []byte("n"), nil, []byte("ew")), s.e)
		is(t, what, d, s.files...)
		for more := range 3 {
			answers(t, what+", more", d.Sync("b~"), burnt(fuse, need+more+1))
		}
	}
}

func TestSaveWithoutRoom(t *testing.T) {
	old, other, left := saved("a", "old"), file{"b", "12", "3"}, file{"a~", "4567", "89"}
	const text = "longer than old"
	for _, files := range [][]file{{other}, {old, other}, {old, other, left}, {other, left}} {
		stays := slices.DeleteFunc(slices.Clone(files), func(f file) bool { return f == left })
		used := laid(t, wide, stays...).Used() // what is left over is gone ahead of what is written
		need := used + len(record(text))
		for room := used + len(left.lasts+left.others); room < need; room++ {
			what := fmt.Sprintf("%v, room %d, need %d", files, room, need)
			d := laid(t, room, files...)
			answers(t, what, keep.Save(d, "a", []byte(text)), api.ErrFull)
			is(t, what, d, stays...)
		}
		d := laid(t, need, files...)
		ok(t, keep.Save(d, "a", []byte(text)))
		is(t, "just room", d, saved("a", text), other)
	}
}

// many is so many files without a byte.
func many(n int) []file {
	var l []file
	for i := range n {
		l = append(l, whole("f"+strconv.Itoa(i), ""))
	}
	return l
}

func TestSaveWithTooManyFiles(t *testing.T) {
	old, left := saved("a", "old"), file{"a~", "1", "2"}
	for _, x := range []struct {
		others int
		files  []file
		e      api.Errno
	}{
		{api.MaxFiles, nil, api.ErrFull},
		{api.MaxFiles - 1, nil, api.OK},
		{api.MaxFiles - 1, []file{old}, api.ErrFull}, // the old one is there till the new one is whole
		{api.MaxFiles - 2, []file{old}, api.OK},
		{api.MaxFiles - 2, []file{old, left}, api.OK},
		{api.MaxFiles - 1, []file{left}, api.OK},
	} {
		others := many(x.others)
		d := laid(t, wide, append(x.files, others...)...)
		what := fmt.Sprintf("%d files and %v", x.others, x.files)
		answers(t, what, keep.Save(d, "a", []byte("new")), x.e)
		want := append(x.files, others...)
		if x.e == api.OK {
			want = append(others, saved("a", "new"))
		}
		is(t, what, d, want...)
	}
}

// P11.2

func TestLoadOfWhatIsNotThere(t *testing.T) {
	for _, name := range append(goodNames(), badNames()...) {
		loadsNot(t, "no disk", nil, name, api.ErrArg)
		loadsNot(t, "an empty disk", laid(t, wide), name, api.ErrNone)
	}
	files := []file{saved("a~", "1"), saved("b", "2"), saved("aa", "3"), saved("A", "4")}
	d := laid(t, wide, files...)
	for _, name := range append(badNames(), "a", "b~", "aa~", "", "bb", "B") {
		loadsNot(t, "others", d, name, api.ErrNone)
	}
	is(t, "behind all", d, files...)
}

func TestLoadOfNoRecord(t *testing.T) {
	long := muddle(api.MaxFrame + 1)
	bad := [][]byte{nil, {0}, {255}, make([]byte, 12), make([]byte, 100), muddle(100), bytes.Repeat([]byte{255}, 12), plain(long), long, plain(long)[:30]}
	for _, p := range [][]byte{nil, []byte("x"), []byte("some text"), muddle(40)} {
		b := plain(p)
		for n := range b {
			bad = append(bad, b[:n], b[n+1:], b[n+1:][:max(0, len(b)-n-2)])
			for _, by := range []byte{1, 2, 0x10, 0x80, 0xff} {
				bad = append(bad, turned(b, n, by))
			}
		}
		for _, more := range [][]byte{{0}, {255}, {'x'}, b[:1], b[:8], b, plain(), plain([]byte("next")), muddle(30), make([]byte, 1<<16)} {
			bad = append(bad, slices.Concat(b, more), slices.Concat(more, b))
		}
		bad = append(bad, slices.Concat(b, b, b))
	}
	for _, b := range bad {
		for _, lasts := range []int{0, len(b) / 2, len(b)} {
			f := file{"a", string(b[:lasts]), string(b[lasts:])}
			d := laid(t, wide, f)
			loadsNot(t, f.String(), d, "a", api.ErrForm)
			if lasts == 0 {
				is(t, "behind Load", d, f)
			}
		}
	}
}

func TestLoad(t *testing.T) {
	for _, p := range [][]byte{nil, {0}, {255}, []byte("text"), plain(), plain([]byte("text")), muddle(300), muddle(1 << 16), muddle(api.MaxFrame)} {
		b := string(plain(p))
		for _, f := range []file{whole("a", b), {"a", "", b}, {"a", b[:5], b[5:]}} { // what is there, though it does not last
			what := f.String()
			d := laid(t, wide, f, whole("a~", "left over"))
			loads(t, what, d, "a", string(p))
			d.Fuse(0) // it needs no fuse
			loads(t, what, d, "a", string(p))
			loads(t, what, d, "a", string(p))
			is(t, what, d, f, whole("a~", "left over"))
			d.Fuse(1)
			loads(t, what, d, "a", string(p))
			ok(t, d.Sync("a"))
		}
	}
}

func TestLoadOfAnyName(t *testing.T) {
	for n := 1; n <= 64; n++ { // Load has no bound of its own: a file of the disk has a name of up to 64 bytes
		name := strings.Repeat("n", n)
		loads(t, "a long name", laid(t, wide, saved(name, "text")), name, "text")
	}
	for _, name := range goodNames() {
		loads(t, "any name", laid(t, wide, saved(name, "text")), name, "text")
	}
}

func TestExample(t *testing.T) {
	d := laid(t, 100)
	ok(t, keep.Save(d, "a", []byte("12"), []byte("3")))
	d.Crash(0)
	loads(t, "the chapter's example", d, "a", "123")
}

// P11.3

// empties is a file of each name, with bytes that last and others.
func empties(names ...string) []file {
	var l []file
	for _, name := range names {
		l = append(l, file{name, "1", "2"})
	}
	return l
}

func TestClear(t *testing.T) {
	all := "a a-1 a-1~ a-10 a-2 a-list a~ aa b b-1 ~ ~a"
	long := strings.Repeat("n", 65)
	for _, x := range []struct {
		prefix string
		stay   string
		want   string
	}{
		{"", "", ""},
		{"", all, all},
		{"", "b", "b"},
		{"", "~ a", "a ~"},
		{"", "none", ""},
		{"none", "", all},
		{"none", "none", all},
		{"none", "a b", all},
		{"c", "", all},
		{"A", "", all},
		{"a-1~~", "", all},
		{long, "", all},
		{long, long, all},
		{"b-1", "", "a a-1 a-1~ a-10 a-2 a-list a~ aa b ~ ~a"}, // a whole name
		{"b-1", "b-1", all},
		{"a-1~", "", "a a-1 a-10 a-2 a-list a~ aa b b-1 ~ ~a"},
		{"a-1", "", "a a-2 a-list a~ aa b b-1 ~ ~a"}, // a whole name, and how others begin
		{"a-1", "a-1", "a a-1 a-2 a-list a~ aa b b-1 ~ ~a"},
		{"a-1", "a-1~ a-10", "a a-1~ a-10 a-2 a-list a~ aa b b-1 ~ ~a"},
		{"a-", "", "a a~ aa b b-1 ~ ~a"},
		{"a-", "a-list a-2", "a a-2 a-list a~ aa b b-1 ~ ~a"},
		{"a-", "a-2 a-list a-2 a-2 a-list", "a a-2 a-list a~ aa b b-1 ~ ~a"}, // twice the same
		{"a-", "a-3 a-list~ a- a-lis a-listt", "a a~ aa b b-1 ~ ~a"},         // none of them is there
		{"a-", "b aa ~ none " + long, "a a~ aa b b-1 ~ ~a"},                  // none of them begins so
		{"a-", "1 10 2 list -1 -list", "a a~ aa b b-1 ~ ~a"},                 // what stands behind the prefix is no name
		{"a", "a", "a b b-1 ~ ~a"},
		{"a", "", "b b-1 ~ ~a"},
		{"a~", "", "a a-1 a-1~ a-10 a-2 a-list aa b b-1 ~ ~a"},
		{"~", "", "a a-1 a-1~ a-10 a-2 a-list a~ aa b b-1"},
		{"~", "~a", "a a-1 a-1~ a-10 a-2 a-list a~ aa b b-1 ~a"},
		{"b", "b-1", "a a-1 a-1~ a-10 a-2 a-list a~ aa b-1 ~ ~a"},
	} {
		what := fmt.Sprintf("Clear of %q but %q", x.prefix, x.stay)
		d := laid(t, wide, empties(strings.Fields(all)...)...)
		ok(t, keep.Clear(d, x.prefix, strings.Fields(x.stay)...))
		is(t, what, d, empties(strings.Fields(x.want)...)...)
		ok(t, keep.Clear(d, x.prefix, strings.Fields(x.stay)...))
		is(t, what+", again", d, empties(strings.Fields(x.want)...)...)
	}
}

func TestClearOfNothing(t *testing.T) {
	for _, prefix := range []string{"", "a", "~", strings.Repeat("n", 65)} {
		for _, stay := range [][]string{nil, {}, {""}, {"a"}, {prefix, prefix}, {strings.Repeat("n", 65)}} {
			answers(t, "no disk", keep.Clear(nil, prefix, stay...), api.ErrArg)
			d := laid(t, wide)
			answers(t, "an empty disk", keep.Clear(d, prefix, stay...), api.OK)
			d.Fuse(0)
			answers(t, "an empty disk, dead", keep.Clear(d, prefix, stay...), api.OK)
			is(t, "an empty disk", d)
		}
	}
}

func TestClearOfAnyNames(t *testing.T) {
	names := append(goodNames(), strings.Repeat("n", 64), strings.Repeat("\xff", 64))
	for _, prefix := range append(names, "", "n", "\xc3", "\xff\xff", "a-") {
		for _, stay := range names {
			d := laid(t, wide, empties(names...)...)
			ok(t, keep.Clear(d, prefix, stay, ""))
			gone := func(name string) bool { return strings.HasPrefix(name, prefix) && name != stay }
			is(t, fmt.Sprintf("Clear of %q but %q", prefix, stay), d, empties(slices.DeleteFunc(slices.Clone(names), gone)...)...)
		}
	}
}

func TestClearByFuses(t *testing.T) {
	names := []string{"a-1", "a-10", "a-10~", "a-2", "a-9", "a-list", "a-~", "b", "b~"}
	for _, stay := range [][]string{nil, {"a-list", "a-10"}, {"a-10", "a-list"}, {"a-1"}, {"a-~"}, {"b", "none"}, names} {
		var gone []string
		for _, name := range names {
			if strings.HasPrefix(name, "a-") && !slices.Contains(stay, name) {
				gone = append(gone, name)
			}
		}
		for fuse := range len(names) + 2 {
			what := fmt.Sprintf("Clear but %q, Fuse(%d)", stay, fuse)
			d := laid(t, wide, empties(names...)...)
			d.Fuse(fuse)
			answers(t, what, keep.Clear(d, "a-", stay...), burnt(fuse, len(gone)))
			done := gone[:min(fuse, len(gone))] // by names, rising
			left := slices.DeleteFunc(slices.Clone(names), func(name string) bool { return slices.Contains(done, name) })
			is(t, what, d, empties(left...)...)
			answers(t, what+", one more", d.Sync("b"), burnt(fuse, len(gone)+1))
		}
	}
}

func TestClearOfMany(t *testing.T) {
	all := many(api.MaxFiles)
	var stay []string
	var want []file
	for i, f := range all {
		if i%3 == 0 {
			stay = append(stay, f.name)
		}
		if i%3 == 0 || !strings.HasPrefix(f.name, "f1") {
			want = append(want, f)
		}
	}
	d := laid(t, 0, all...)
	ok(t, keep.Clear(d, "f1", stay...))
	is(t, "of many", d, want...)
	ok(t, keep.Clear(d, "f"))
	is(t, "of all", d)
}

// P11.4

// texts is what is saved where a crash comes.
func texts() []string { return []string{"", "x", "old", string(muddle(40))} }

func TestCrashWhereverTheFuseBurns(t *testing.T) {
	for _, old := range texts() {
		for _, text := range append(texts(), "new") {
			for _, left := range [][]file{nil, {{"a~", "1", "2"}}, {saved("a~", "left")}} {
				for fuse := -1; fuse < 7; fuse++ {
					d := laid(t, wide, left...)
					ok(t, keep.Save(d, "a", []byte(old)))
					if left != nil { // the Save took it away
						ok(t, d.Append("a~", []byte(left[0].others)))
					}
					d.Fuse(fuse)
					want := text
					if keep.Save(d, "a", []byte(text)) != api.OK {
						want = old
					}
					crashes(t, fmt.Sprintf("%q, then %q, %v, Fuse(%d)", old, text, left, fuse), d, len(text)+14, want)
				}
			}
		}
	}
}

// crashes tells of a crash behind which a file, a, does not hold a text, or behind which it can not be saved anew.
func crashes(t *testing.T, what string, d *disk.Disk, draws int, want string) {
	t.Helper()
	loads(t, what, d, "a", want)
	for draw := -2; draw < draws; draw++ {
		c := d.Copy()
		c.Crash(draw)
		what := fmt.Sprintf("%s, Crash(%d)", what, draw)
		loads(t, what, c, "a", want)
		ok(t, keep.Save(c, "a", []byte("anew")))
		is(t, what, c, saved("a", "anew"))
	}
	for _, draw := range []int{math.MinInt, math.MaxInt} {
		c := d.Copy()
		c.Crash(draw)
		loads(t, what, c, "a", want)
	}
}

func TestCrashOfTheFirstSave(t *testing.T) {
	for _, text := range texts() {
		for fuse := range 3 {
			d := laid(t, wide)
			d.Fuse(fuse)
			answers(t, strconv.Quote(text), keep.Save(d, "a", []byte(text)), api.ErrDead)
			for draw := range len(text) + 14 {
				c := d.Copy()
				c.Crash(draw)
				loadsNot(t, fmt.Sprintf("%q, Fuse(%d), Crash(%d)", text, fuse, draw), c, "a", api.ErrNone)
			}
		}
	}
}

// told is what is known of the files that were saved.
type told struct {
	t     *testing.T
	d     *disk.Disk
	files map[string]string
	done  []string
}

// holds tells of files that do not hold what was told last.
func (o *told) holds() {
	o.t.Helper()
	for _, name := range scriptNames() {
		p, e := keep.Load(o.d, name)
		want, has := o.files[name]
		if has && (e != api.OK || string(p) != want) || !has && e != api.ErrNone {
			o.t.Fatalf("%s: Load of %s: %q, %v, want %q, %v", strings.Join(o.done, ", "), name, p, e, want, has)
		}
	}
}

func scriptNames() []string { return []string{"a", "ab", "b", "ba"} }

// did does something, and writes down that it was done.
func (o *told) did(e api.Errno, what string, args ...any) api.Errno {
	o.done = append(o.done, fmt.Sprintf(what, args...)+": "+strconv.Itoa(int(e)))
	return e
}

func (o *told) save(name, text string) {
	if o.did(keep.Save(o.d, name, []byte(text)), "Save(%q, %q)", name, text) == api.OK {
		o.files[name] = text
	}
}

// clear tells of a Clear that does not take files away by names, up to where it errs.
func (o *told) clear(prefix, stay string) {
	was := o.d.List()
	e := o.did(keep.Clear(o.d, prefix, stay), "Clear(%q, %q)", prefix, stay)
	erred := false
	for _, name := range was {
		_, none := o.d.Read(name)
		if !strings.HasPrefix(name, prefix) || name == stay {
			if none != api.OK {
				o.t.Fatalf("%s: %s is gone", strings.Join(o.done, ", "), name)
			}
			continue
		}
		erred = erred || none == api.OK
		if erred != (none == api.OK) || erred && e != api.ErrDead {
			o.t.Fatalf("%s: of %q there is %q", strings.Join(o.done, ", "), was, o.d.List())
		}
		if !erred {
			delete(o.files, name)
		}
	}
}

func TestScripts(t *testing.T) {
	x := uint32(7)
	draw := func(n int) int {
		x = x*1664525 + 1013904223
		return int(x>>8) % n
	}
	full := 0
	for range 3000 {
		o := &told{t: t, d: laid(t, 60+draw(100)), files: map[string]string{}}
		for range 30 {
			name := scriptNames()[draw(4)]
			switch draw(8) {
			case 0:
				n := draw(9) - 1
				o.d.Fuse(n)
				o.did(api.OK, "Fuse(%d)", n)
			case 1:
				n := draw(60) - 1
				o.d.Crash(n)
				o.did(api.OK, "Crash(%d)", n)
			case 2:
				o.clear([]string{"", "a", "b", "ab", "c"}[draw(5)], name)
			default:
				o.save(name, string(muddle(draw(40))))
			}
			o.holds()
			if strings.HasSuffix(o.done[len(o.done)-1], ": "+strconv.Itoa(int(api.ErrFull))) {
				full++
			}
		}
	}
	if full < 100 {
		t.Error("too few without room:", full)
	}
}

// What is answered depends on what was done alone.
func TestTwins(t *testing.T) {
	for fuse := -1; fuse < 6; fuse++ {
		one := laid(t, 60, saved("a", "old"), file{"a~", "1", "2"})
		two := one.Copy()
		for _, d := range []*disk.Disk{one, two} {
			d.Fuse(fuse)
		}
		answers(t, "Save", keep.Save(one, "a", []byte("new")), keep.Save(two, "a", []byte("new")))
		is(t, "Save", one, there(t, two)...)
		answers(t, "Clear", keep.Clear(one, "a", "a~"), keep.Clear(two, "a", "a~"))
		is(t, "Clear", one, there(t, two)...)
	}
}

// roomy is a row with spare room behind its end.
func roomy(text string) []byte { return append([]byte(text), "behind the end of it"...)[:len(text)] }

// spare is a row and the spare room behind its end.
func spare(row []byte) string { return string(row[:cap(row)]) }

// spoil changes a row and the spare room behind its end.
func spoil(row []byte) {
	row = row[:cap(row)]
	for i := range row {
		row[i] ^= 0xff
	}
}

func TestRowsHandedIn(t *testing.T) {
	for _, fuse := range []int{-1, 0, 1, 2, 3, 4} {
		one, two := roomy("12"), roomy("3")
		was := []string{spare(one), spare(two)}
		all := [][]byte{one, nil, two, one, {7}, nil, {8}}
		l := all[:4]
		d := laid(t, wide, saved("a", "old"), file{"a~", "1", "2"})
		d.Fuse(fuse)
		e := keep.Save(d, "a", l...)
		if spare(one) != was[0] || spare(two) != was[1] {
			t.Errorf("Fuse(%d): %q, %q", fuse, spare(one), spare(two))
		}
		if &all[0][0] != &one[0] || all[1] != nil || &all[2][0] != &two[0] || &all[3][0] != &one[0] || string(all[4]) != "\x07" || all[5] != nil || string(all[6]) != "\x08" {
			t.Errorf("Fuse(%d): the list of rows is another one", fuse)
		}
		want := "12312"
		if e != api.OK {
			want = "old"
		}
		spoil(one)
		spoil(two)
		clear(all)
		loads(t, "rows that are spoilt", d, "a", want)
		d.Crash(0)
		loads(t, "rows that are spoilt, and a crash", d, "a", want)
	}
	one := roomy("12")
	was := spare(one)
	l := slices.Repeat([][]byte{one}, api.MaxFrame)
	answers(t, "too long", keep.Save(laid(t, wide), "a", l...), api.ErrLong)
	answers(t, "no name", keep.Save(laid(t, wide), "", one), api.ErrArg)
	answers(t, "no disk", keep.Save(nil, "a", one), api.ErrArg)
	answers(t, "no room", keep.Save(laid(t, 5), "a", one), api.ErrFull)
	if spare(one) != was {
		t.Errorf("%q", spare(one))
	}
}

func TestNamesHandedIn(t *testing.T) {
	want := []string{"a-9", "a-1", "b", "none", "a-9", "", "spare", "room"}
	for fuse := -1; fuse < 4; fuse++ {
		names := slices.Clone(want)
		d := laid(t, wide, empties("a-1", "a-2", "a-3", "a-9", "b")...)
		d.Fuse(fuse)
		answers(t, "Clear", keep.Clear(d, "a-", names[:6]...), burnt(fuse, 2))
		if !slices.Equal(names, want) {
			t.Errorf("%q", names)
		}
		left := there(t, d)
		for i := range names {
			names[i] = "a-2"
		}
		is(t, "names that are others", d, left...)
	}
}

func TestLoadIsNew(t *testing.T) {
	for _, text := range []string{"", "x", "some text", string(muddle(300))} {
		d := laid(t, wide)
		ok(t, keep.Save(d, "a", []byte(text)))
		one, _ := keep.Load(d, "a")
		two, _ := keep.Load(d, "a")
		spoil(one)
		if string(two) != text {
			t.Errorf("a second Load of %q: %q", text, two)
		}
		is(t, "what was answered is spoilt", d, saved("a", text))
		loads(t, "a third Load", d, "a", text)
		ok(t, keep.Save(d, "a", bytes.Repeat([]byte("y"), len(text)))) // what was answered stays
		d.Crash(0)
		ok(t, keep.Clear(d, ""))
		if string(two) != text {
			t.Errorf("%q behind all: %q", text, two)
		}
	}
}
