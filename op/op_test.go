package op_test

import (
	"bytes"
	"encoding/binary"
	"encoding/hex"
	"fmt"
	"math"
	"runtime"
	"slices"
	"strings"
	"testing"
	"time"

	"haystack/api"
	"haystack/op"
)

const (
	top    = 1 << 62 // the greatest number that is laid
	client = 1 << 40 // the greatest Client, and the greatest Seq
	spare  = "what is behind the end"
)

// nums is bytes with numbers behind them, by chapter 1's words.
func nums(b []byte, v ...int) []byte {
	for _, n := range v {
		b = binary.AppendUvarint(b, uint64(min(max(n, 0), top)))
	}
	return b
}

// row is bytes with a row of bytes behind them, by chapter 1's words.
func row(b []byte, p string) []byte { return append(nums(b, len(p)), p...) }

// opBytes is an op as bytes, by the chapter's words, whether it may be or not.
func opBytes(o api.Op) []byte {
	return row(row(nums(nil, o.Kind, o.Client, o.Seq), o.Key), string(o.Text))
}

// replyBytes is a reply as bytes, by the chapter's words, however many numbers it has.
func replyBytes(e int, l ...int) []byte { return nums(nums(nil, e, len(l)), l...) }

// placesBytes is places as bytes, by the chapter's words.
func placesBytes(l ...api.Match) []byte {
	b := nums(nil, len(l))
	for _, m := range l {
		b = nums(row(b, m.Key), m.At)
	}
	return b
}

// plain takes bytes apart by chapter 1's words.
type plain struct {
	left []byte
	bad  bool
}

// num takes a number.
func (p *plain) num() int {
	n, long := binary.Uvarint(p.left)
	if p.bad || long <= 0 || n > top || long != len(binary.AppendUvarint(nil, n)) {
		p.left, p.bad = nil, true
		return 0
	}
	p.left = p.left[long:]
	return int(n)
}

// row takes a row of bytes.
func (p *plain) row() string {
	n := p.num()
	if n > len(p.left) {
		p.left, p.bad = nil, true
		return ""
	}
	text := string(p.left[:n])
	p.left = p.left[n:]
	return text
}

// whole tells whether all was taken.
func (p *plain) whole() bool { return !p.bad && len(p.left) == 0 }

// isKey tells whether a text is a key.
func isKey(key string) bool { return len(key) >= 1 && len(key) <= 64 }

// readOp is the op that bytes are, by the chapter's words.
func readOp(b []byte) (api.Op, bool) {
	p := plain{left: b}
	o := api.Op{Kind: p.num(), Client: p.num(), Seq: p.num(), Key: p.row(), Text: []byte(p.row())}
	kind := o.Kind == 1 && len(o.Text) <= 4096 || o.Kind == 2 && len(o.Text) == 0
	if !p.whole() || !kind || o.Client > client || o.Seq > client || !isKey(o.Key) {
		return api.Op{}, false
	}
	return o, true
}

// readReply is the reply that bytes are, by the chapter's words.
func readReply(b []byte) (op.Reply, bool) {
	p := plain{left: b}
	e, n := p.num(), p.num()
	var l []int
	for i := 0; i < n && i < 9; i++ {
		l = append(l, p.num())
	}
	if !p.whole() || e > 100 || n > 8 {
		return op.Reply{}, false
	}
	return op.Reply{Err: api.Errno(e), Nums: l}, true
}

// readPlaces is the places that bytes are, by the chapter's words.
func readPlaces(b []byte) ([]api.Match, bool) {
	p := plain{left: b}
	n := p.num()
	var l []api.Match
	for i := 0; i < n && !p.bad; i++ {
		l = append(l, api.Match{Key: p.row(), At: p.num()})
	}
	no := func(m api.Match) bool { return !isKey(m.Key) }
	if !p.whole() || slices.ContainsFunc(l, no) {
		return nil, false
	}
	return l, true
}

// sameOp tells whether two ops are the same.
func sameOp(a, b api.Op) bool {
	return a.Kind == b.Kind && a.Client == b.Client && a.Seq == b.Seq && a.Key == b.Key && bytes.Equal(a.Text, b.Text)
}

// sameReply tells whether two replies are the same.
func sameReply(a, b op.Reply) bool { return a.Err == b.Err && slices.Equal(a.Nums, b.Nums) }

// short is bytes for a message.
func short(b []byte) string { return fmt.Sprintf("%d: % x", len(b), b[:min(len(b), 40)]) }

// shortOp is an op for a message.
func shortOp(o api.Op) string {
	return fmt.Sprintf("{%d %d %d key %s text %s}", o.Kind, o.Client, o.Seq, short([]byte(o.Key)), short(o.Text))
}

// shortPlaces is places for a message.
func shortPlaces(l []api.Match) string {
	text := fmt.Sprint(len(l), ":")
	for _, m := range l[:min(len(l), 9)] {
		text += fmt.Sprintf(" {%q %d}", m.Key, m.At)
	}
	return text
}

// same tells of bytes that are not those that are asked for.
func same(t *testing.T, name string, got, want []byte) {
	t.Helper()
	if !bytes.Equal(got, want) {
		t.Errorf("%s: %s, want %s", name, short(got), short(want))
	}
}

// encoded is the bytes of an op that may be.
func encoded(t *testing.T, name string, o api.Op) []byte {
	t.Helper()
	b, e := op.Encode(o)
	if e != api.OK {
		t.Fatalf("%s: Encode of %s: %v", name, shortOp(o), e)
	}
	return b
}

// refuses tells of an op that is not refused with this error.
func refuses(t *testing.T, name string, o api.Op, want api.Errno) {
	t.Helper()
	if b, e := op.Encode(o); e != want || len(b) != 0 {
		t.Errorf("%s: Encode of %s: %s, %v, want %v", name, shortOp(o), short(b), e, want)
	}
}

// decodes tells of bytes that are not taken as this op.
func decodes(t *testing.T, name string, b []byte, want api.Op) {
	t.Helper()
	if o, e := op.Decode(b); e != api.OK || !sameOp(o, want) {
		t.Errorf("%s: Decode of %s: %s, %v, want %s", name, short(b), shortOp(o), e, shortOp(want))
	}
}

// noOp tells of bytes that are taken as an op, or refused otherwise than they are to be.
func noOp(t *testing.T, name string, b []byte) {
	t.Helper()
	if o, e := op.Decode(b); e != api.ErrForm || !sameOp(o, api.Op{}) {
		t.Errorf("%s: Decode of %s: %s, %v, want none, %v", name, short(b), shortOp(o), e, api.ErrForm)
	}
}

// replies tells of bytes that are not taken as this reply.
func replies(t *testing.T, name string, b []byte, want op.Reply) {
	t.Helper()
	if r, e := op.DecodeReply(b); e != api.OK || !sameReply(r, want) {
		t.Errorf("%s: DecodeReply of %s: %v, %v, want %v", name, short(b), r, e, want)
	}
}

// noReply tells of bytes that are taken as a reply, or refused otherwise than they are to be.
func noReply(t *testing.T, name string, b []byte) {
	t.Helper()
	if r, e := op.DecodeReply(b); e != api.ErrForm || !sameReply(r, op.Reply{}) {
		t.Errorf("%s: DecodeReply of %s: %v, %v, want none, %v", name, short(b), r, e, api.ErrForm)
	}
}

// reads tells of bytes that are not taken as these places.
func reads(t *testing.T, name string, b []byte, want []api.Match) {
	t.Helper()
	l, e := op.ReadMatches(b)
	if e != api.OK || !slices.Equal(l, want) {
		t.Errorf("%s: ReadMatches of %s: %s, %v, want %s", name, short(b), shortPlaces(l), e, shortPlaces(want))
	}
}

// noPlaces tells of bytes that are taken as places, or refused otherwise than they are to be.
func noPlaces(t *testing.T, name string, b []byte) {
	t.Helper()
	if l, e := op.ReadMatches(b); e != api.ErrForm || len(l) != 0 {
		t.Errorf("%s: ReadMatches of %s: %d places, %v, want none, %v", name, short(b), len(l), e, api.ErrForm)
	}
}

// asPlain tells of bytes that one of the three takes otherwise than the chapter's words do, or that are not written just so again.
func asPlain(t *testing.T, name string, b []byte) {
	t.Helper()
	if o, ok := readOp(b); ok {
		decodes(t, name, b, o)
		same(t, name+": written again", encoded(t, name, o), b)
	} else {
		noOp(t, name, b)
	}
	if r, ok := readReply(b); ok {
		replies(t, name, b, r)
		same(t, name+": written again", op.EncodeReply(r), b)
	} else {
		noReply(t, name, b)
	}
	if l, ok := readPlaces(b); ok {
		reads(t, name, b, l)
		same(t, name+": written again", op.Matches(l...), b)
	} else {
		noPlaces(t, name, b)
	}
}

// keys is keys of any bytes, of the fewest and of the most.
func keys() []string {
	return []string{
		"k", "\x00", "\xff", "\x80", " ", "\n", "kk", "\x00\x01\x02", "a/b", "ä", "\xc3", strings.Repeat("k", 63), strings.Repeat("k", 64),
		strings.Repeat("\x00", 64), strings.Repeat("\xff", 64), strings.Repeat("ä", 32),
	}
}

// noKeys is texts that are no keys, some of fewer signs than 64 among them.
func noKeys() []string {
	return []string{"", strings.Repeat("k", 65), strings.Repeat("\x00", 65), strings.Repeat("ä", 32) + "k", strings.Repeat("k", 128), strings.Repeat("\xff", 1<<16)}
}

// texts is texts of any bytes, of the fewest and of the most.
func texts() []string {
	return []string{
		"", "t", "\x00", "\xff", "banana", "\x00\xff\x80", "ä", strings.Repeat("t", 127), strings.Repeat("t", 128),
		strings.Repeat("t", 4095), strings.Repeat("t", 4096), strings.Repeat("\x00", 4096), strings.Repeat("\xff", 4096), strings.Repeat("ä", 2048),
	}
}

// longTexts is texts of too many bytes, some of fewer signs than 4096 among them.
func longTexts() []string {
	return []string{strings.Repeat("t", 4097), strings.Repeat("\x00", 4097), strings.Repeat("ä", 2048) + "t", strings.Repeat("t", 1<<14), strings.Repeat("\xff", 1<<20)}
}

// numbers is those that a Client and a Seq may be, at which the form of numbers changes and about.
func numbers() []int {
	return []int{0, 1, 2, 127, 128, 129, 255, 256, 1<<14 - 1, 1 << 14, 1<<31 - 1, 1 << 31, 1 << 32, 1<<35 - 1, 1 << 35, client - 1, client}
}

// noNumbers is those that a Client and a Seq may not be.
func noNumbers() []int {
	return []int{-1, -2, -128, math.MinInt32, -client, math.MinInt, client + 1, client + 2, 2 * client, 1<<41 + 1, 1 << 48, top - 1, top, top + 1, math.MaxInt}
}

// noKinds is numbers that are the Kind of no op.
func noKinds() []int {
	return []int{0, 3, 4, 9, 127, 128, 129, 130, 257, 258, 1<<16 + 1, 1<<32 + 1, 1<<32 + 2, top, math.MaxInt, -1, -2, -255, math.MinInt, math.MinInt + 1}
}

// ops is ops of many kinds that may be.
func ops() []api.Op {
	var l []api.Op
	for _, key := range keys() {
		for _, text := range texts() {
			l = append(l, api.Op{Kind: api.OpPut, Client: 1, Seq: 2, Key: key, Text: []byte(text)})
		}
		l = append(l, api.Op{Kind: api.OpDelete, Client: 3, Seq: 300, Key: key})
	}
	for _, one := range numbers() {
		for _, other := range numbers() {
			l = append(l, api.Op{Kind: api.OpPut, Client: one, Seq: other, Key: "key", Text: []byte("text")}, api.Op{Kind: api.OpDelete, Client: one, Seq: other, Key: "key"})
		}
	}
	return l
}

// P13.1

func TestEncodeLays(t *testing.T) {
	long := strings.Repeat("k", 64)
	for _, c := range []struct {
		o    api.Op
		want string
	}{
		{api.Op{Kind: api.OpPut, Client: 1, Seq: 2, Key: "k", Text: []byte("t")}, "010102016b0174"},
		{api.Op{Kind: api.OpPut, Key: "k"}, "010000016b00"},
		{api.Op{Kind: api.OpPut, Key: "k", Text: []byte{}}, "010000016b00"},
		{api.Op{Kind: api.OpDelete, Key: "k"}, "020000016b00"},
		{api.Op{Kind: api.OpDelete, Client: 2, Seq: 1, Key: "k", Text: []byte{}}, "020201016b00"},
		{api.Op{Kind: api.OpPut, Client: 300, Seq: 127, Key: "ab", Text: []byte{0, 0xff}}, "01ac027f0261620200ff"},
		{api.Op{Kind: api.OpDelete, Client: 128, Seq: 1<<14 - 1, Key: "\x00\xff\x80"}, "028001ff7f0300ff8000"},
		{api.Op{Kind: api.OpPut, Client: client, Seq: client - 1, Key: "k", Text: []byte("t")}, "01808080808020ffffffffff1f016b0174"},
		{api.Op{Kind: api.OpPut, Client: client - 1, Seq: client, Key: long, Text: []byte("tt")}, "01ffffffffff1f80808080802040" + strings.Repeat("6b", 64) + "027474"},
		{api.Op{Kind: api.OpPut, Client: 1, Seq: 1, Key: "k", Text: bytes.Repeat([]byte("t"), 127)}, "010101016b7f" + strings.Repeat("74", 127)},
		{api.Op{Kind: api.OpPut, Client: 1, Seq: 1, Key: "k", Text: bytes.Repeat([]byte("t"), 128)}, "010101016b8001" + strings.Repeat("74", 128)},
		{api.Op{Kind: api.OpPut, Client: 1, Seq: 1, Key: "k", Text: bytes.Repeat([]byte("t"), 4096)}, "010101016b8020" + strings.Repeat("74", 4096)},
	} {
		want, err := hex.DecodeString(c.want)
		if err != nil {
			t.Fatal(err)
		}
		same(t, shortOp(c.o), encoded(t, "bytes", c.o), want)
		decodes(t, "bytes", want, c.o)
	}
}

func TestEncodeAndDecode(t *testing.T) {
	for _, o := range ops() {
		b := encoded(t, "an op", o)
		same(t, shortOp(o), b, opBytes(o))
		decodes(t, "an op", b, o)
	}
}

// faulty is what makes an op one that may not be.
type faulty struct {
	name string
	make func(o *api.Op)
}

// args is all reasons for ErrArg.
func args() []faulty {
	var l []faulty
	for _, n := range noKinds() {
		l = append(l, faulty{fmt.Sprint("Kind ", n), func(o *api.Op) { o.Kind = n }})
	}
	for _, n := range noNumbers() {
		l = append(l, faulty{fmt.Sprint("Client ", n), func(o *api.Op) { o.Client = n }}, faulty{fmt.Sprint("Seq ", n), func(o *api.Op) { o.Seq = n }})
	}
	for _, key := range noKeys() {
		l = append(l, faulty{"Key of " + short([]byte(key)), func(o *api.Op) { o.Key = key }})
	}
	for _, text := range []string{"t", "\x00", strings.Repeat("t", 4096), strings.Repeat("t", 4097)} {
		l = append(l, faulty{"Delete with " + short([]byte(text)), func(o *api.Op) { o.Kind, o.Text = api.OpDelete, []byte(text) }})
	}
	return l
}

func TestEncodeErrArg(t *testing.T) {
	for _, f := range args() {
		for _, o := range []api.Op{
			{Kind: api.OpPut, Client: 1, Seq: 2, Key: "k", Text: []byte("t")},
			{Kind: api.OpPut, Key: "k"},
			{Kind: api.OpDelete, Client: 1, Seq: 2, Key: "k"},
			{Kind: api.OpPut, Client: client, Seq: client, Key: strings.Repeat("k", 64), Text: make([]byte, 4096)},
			{Kind: api.OpPut, Client: 1, Seq: 2, Key: "k", Text: make([]byte, 4097)},
		} {
			f.make(&o)
			refuses(t, f.name, o, api.ErrArg)
		}
		for _, other := range args() {
			o := api.Op{Kind: api.OpPut, Client: 1, Seq: 2, Key: "k", Text: make([]byte, 4097)}
			f.make(&o)
			other.make(&o)
			if o.Kind != api.OpPut || o.Client != 1 || o.Seq != 2 || o.Key != "k" {
				refuses(t, f.name+" and "+other.name, o, api.ErrArg)
			}
		}
	}
	refuses(t, "the zero op", api.Op{}, api.ErrArg)
}

func TestEncodeErrLong(t *testing.T) {
	for _, text := range longTexts() {
		for _, o := range []api.Op{
			{Kind: api.OpPut, Client: 1, Seq: 2, Key: "k"},
			{Kind: api.OpPut, Key: strings.Repeat("\xff", 64)},
			{Kind: api.OpPut, Client: client, Seq: client, Key: "k"},
		} {
			o.Text = []byte(text)
			refuses(t, "too long a text", o, api.ErrLong)
			o.Kind = api.OpDelete
			refuses(t, "a Delete with too long a text", o, api.ErrArg)
		}
	}
}

func TestDecodeErrForm(t *testing.T) {
	noOp(t, "nil", nil)
	noOp(t, "no byte", []byte{})
	for _, f := range args() {
		o := api.Op{Kind: api.OpPut, Client: 1, Seq: 2, Key: "k", Text: []byte("t")}
		f.make(&o)
		// A number below 0 can't be laid: it would stand there as 0.
		if o.Client >= 0 && o.Seq >= 0 {
			noOp(t, f.name, opBytes(o))
		}
	}
	for _, text := range longTexts() {
		noOp(t, "too long a text", opBytes(api.Op{Kind: api.OpPut, Client: 1, Seq: 2, Key: "k", Text: []byte(text)}))
		noOp(t, "a Delete with too long a text", opBytes(api.Op{Kind: api.OpDelete, Client: 1, Seq: 2, Key: "k", Text: []byte(text)}))
	}
}

func TestDecodeCut(t *testing.T) {
	for _, o := range []api.Op{
		{Kind: api.OpPut, Client: 1, Seq: 2, Key: "k", Text: []byte("t")},
		{Kind: api.OpPut, Client: 300, Seq: client, Key: "key", Text: []byte("\x00\x01\x00")},
		{Kind: api.OpDelete, Client: client, Seq: 300, Key: strings.Repeat("k", 64)},
		{Kind: api.OpPut, Client: 1, Seq: 2, Key: "k", Text: make([]byte, 4096)},
	} {
		b := opBytes(o)
		for n := range b {
			noOp(t, fmt.Sprint("cut behind ", n), b[:n])
		}
		for _, more := range []string{"\x00", "\x01", "\x80", "\xff", "\x01t", string(b)} {
			noOp(t, "with something behind it", append(slices.Clone(b), more...))
		}
		noOp(t, "with something ahead of it", append([]byte{0}, b...))
	}
}

// wrongNumbers is how a number may stand there that chapter 1 does not take: in more bytes than needed, too great, without an end.
func wrongNumbers(n int) [][]byte {
	good := nums(nil, n)
	last := len(good) - 1
	longer := append(slices.Clone(good[:last]), good[last]|0x80)
	var l [][]byte
	for len(longer) < 12 {
		l = append(l, append(slices.Clone(longer), 0))
		longer = append(longer, 0x80)
	}
	for _, great := range []uint64{top + 1, 1<<63 - 1, 1 << 63, 1<<63 + uint64(n), math.MaxUint64} {
		l = append(l, binary.AppendUvarint(nil, great))
	}
	return append(l, bytes.Repeat([]byte{0x80}, 10), bytes.Repeat([]byte{0xff}, 10), append(bytes.Repeat([]byte{0x80}, 10), 1), bytes.Repeat([]byte{0xff}, 40))
}

// part is a piece of bytes: a number, or what a number counts.
type part struct {
	n    int
	text string // n is how long it is, if it is not empty
}

// wrongParts is bytes made of parts, of which one number stands there as it may not, or tells of another length.
func wrongParts(l ...part) [][]byte {
	// lay is the parts, with other bytes in the stead of one number.
	lay := func(at int, number []byte) []byte {
		var b []byte
		for i, p := range l {
			if i == at {
				b = append(b, number...)
			} else {
				b = nums(b, p.n)
			}
			b = append(b, p.text...)
		}
		return b
	}
	var all [][]byte
	for i, p := range l {
		for _, number := range wrongNumbers(p.n) {
			all = append(all, lay(i, number))
		}
		if p.text == "" {
			continue
		}
		for _, n := range []int{0, len(p.text) - 1, len(p.text) + 1, len(p.text) + 100, 1 << 20, 1 << 31, 1 << 40, top} {
			all = append(all, lay(i, nums(nil, n)))
		}
	}
	return all
}

func TestDecodeNumbersAndLengths(t *testing.T) {
	for _, l := range [][]part{
		{{1, ""}, {1, ""}, {2, ""}, {1, "k"}, {1, "t"}},
		{{2, ""}, {300, ""}, {client, ""}, {3, "key"}, {0, ""}},
		{{1, ""}, {0, ""}, {0, ""}, {64, strings.Repeat("\xff", 64)}, {300, strings.Repeat("\xff", 300)}},
	} {
		for _, b := range wrongParts(l...) {
			noOp(t, "a number or a length", b)
		}
	}
	for _, n := range []int{1, 63, 64, 65, 1 << 10, 1 << 31, top} {
		noOp(t, "a key that is not there", nums(nil, 1, 1, 1, n))
		noOp(t, "a text that is not there", nums(row(nums(nil, 1, 1, 1), "k"), n))
	}
}

// P13.2

func TestEncodeReplyLays(t *testing.T) {
	for _, c := range []struct {
		r    op.Reply
		want string
		err  int
		nums []int
	}{
		{op.Reply{}, "0000", 0, nil},
		{op.Reply{Nums: []int{}}, "0000", 0, nil},
		{op.Reply{Err: api.ErrNone}, "0700", 7, nil},
		{op.Reply{Nums: []int{1}}, "000101", 0, []int{1}},
		{op.Reply{Err: api.ErrOld, Nums: []int{0, 300}}, "0d0200ac02", 13, []int{0, 300}},
		{op.Reply{Nums: []int{7, 6, 5, 4, 3, 2, 1}}, "000707060504030201", 0, []int{7, 6, 5, 4, 3, 2, 1}},
		{op.Reply{Nums: []int{8, 7, 6, 5, 4, 3, 2, 1}}, "00080807060504030201", 0, []int{8, 7, 6, 5, 4, 3, 2, 1}},
		{op.Reply{Nums: []int{9, 8, 7, 6, 5, 4, 3, 2, 1}}, "00080908070605040302", 0, []int{9, 8, 7, 6, 5, 4, 3, 2}},
		{op.Reply{Err: 1, Nums: []int{1, 2, 3, 4, 5, 6, 7, 8, -1, 300, 11, 12}}, "01080102030405060708", 1, []int{1, 2, 3, 4, 5, 6, 7, 8}},
		{op.Reply{Nums: []int{-1}}, "000100", 0, []int{0}},
		{op.Reply{Nums: []int{-1, 5, math.MinInt, 6, -300}}, "00050005000600", 0, []int{0, 5, 0, 6, 0}},
		{op.Reply{Err: -1, Nums: []int{2}}, "000102", 0, []int{2}},
		{op.Reply{Err: math.MinInt}, "0000", 0, nil},
		{op.Reply{Err: 99}, "6300", 99, nil},
		{op.Reply{Err: 100}, "6400", 100, nil},
		{op.Reply{Nums: []int{top - 1, top}}, "0002ffffffffffffffff3f808080808080808040", 0, []int{top - 1, top}},
		{op.Reply{Nums: []int{top + 1, math.MaxInt}}, "0002808080808080808040808080808080808040", 0, []int{top, top}},
		{op.Reply{Err: 101, Nums: []int{1}}, "650101", 101, nil},
		{op.Reply{Err: 128}, "800100", 128, nil},
		{op.Reply{Err: math.MaxInt}, "80808080808080804000", math.MaxInt, nil},
	} {
		want, err := hex.DecodeString(c.want)
		if err != nil {
			t.Fatal(err)
		}
		name := fmt.Sprint(c.r)
		same(t, name, op.EncodeReply(c.r), want)
		if c.err > 100 {
			noReply(t, name, want)
		} else {
			replies(t, name, want, op.Reply{Err: api.Errno(c.err), Nums: c.nums})
		}
	}
}

func TestEncodeReplyOfMany(t *testing.T) {
	for _, n := range []int{0, 1, 2, 7, 8, 9, 10, 16, 255, 256, 257, 1 << 16} {
		all := make([]int, n)
		for i := range all {
			all[i] = i * 37
		}
		b := op.EncodeReply(op.Reply{Err: 5, Nums: all})
		same(t, fmt.Sprint(n), b, replyBytes(5, all[:min(n, 8)]...))
		replies(t, fmt.Sprint(n), b, op.Reply{Err: 5, Nums: all[:min(n, 8)]})
	}
}

func TestDecodeReplyErr(t *testing.T) {
	for e := range 101 {
		replies(t, fmt.Sprint("Err ", e), replyBytes(e, 1, 2), op.Reply{Err: api.Errno(e), Nums: []int{1, 2}})
		replies(t, fmt.Sprint("Err ", e), replyBytes(e), op.Reply{Err: api.Errno(e)})
	}
	for _, e := range []int{101, 102, 127, 128, 200, 255, 256, 1 << 16, 1 << 32, 1<<32 + 1, 1 << 40, top} {
		noReply(t, fmt.Sprint("Err ", e), replyBytes(e, 1, 2))
		noReply(t, fmt.Sprint("Err ", e), replyBytes(e))
	}
}

func TestDecodeReplyErrForm(t *testing.T) {
	noReply(t, "nil", nil)
	noReply(t, "no byte", []byte{})
	for _, b := range [][]byte{
		replyBytes(0), replyBytes(7, 1), replyBytes(100, 300, 0, top), replyBytes(1, 1, 2, 3, 4, 5, 6, 7, 8),
		replyBytes(0, top, top, top, top, top, top, top, top),
	} {
		for n := range b {
			noReply(t, fmt.Sprint("cut behind ", n), b[:n])
		}
		for _, more := range []string{"\x00", "\x01", "\x80", "\xff", string(b)} {
			noReply(t, "with something behind it", append(slices.Clone(b), more...))
		}
	}
	for _, n := range []int{9, 10, 16, 100, 255, 1 << 10} {
		noReply(t, fmt.Sprint(n, " numbers"), replyBytes(0, make([]int, n)...))
	}
	for there := range 11 {
		for _, told := range []int{0, 1, 2, 3, 4, 5, 6, 7, 8, 9, 10, 256, 257, 1 << 20, 1 << 32, 1<<32 + 1, top} {
			if told == there && there <= 8 {
				continue
			}
			noReply(t, fmt.Sprint(there, " numbers, told ", told), nums(nums(nil, 0, told), make([]int, there)...))
		}
	}
}

func TestDecodeReplyNumbers(t *testing.T) {
	for _, l := range [][]part{
		{{0, ""}, {0, ""}},
		{{7, ""}, {3, ""}, {0, ""}, {300, ""}, {top, ""}},
		{{100, ""}, {8, ""}, {1, ""}, {2, ""}, {3, ""}, {4, ""}, {5, ""}, {6, ""}, {7, ""}, {8, ""}},
	} {
		for _, b := range wrongParts(l...) {
			noReply(t, "a number", b)
		}
	}
}

// P13.3

// many is so many places, of keys of any bytes.
func many(n int) []api.Match {
	l := make([]api.Match, n)
	for i := range l {
		l[i] = api.Match{Key: keys()[i%len(keys())], At: numbers()[i%len(numbers())]}
	}
	return l
}

func TestMatchesLays(t *testing.T) {
	for _, c := range []struct {
		l    []api.Match
		want string
	}{
		{nil, "00"},
		{[]api.Match{}, "00"},
		{[]api.Match{{Key: "k", At: 0}}, "01016b00"},
		{[]api.Match{{Key: "k", At: 300}}, "01016bac02"},
		{[]api.Match{{Key: "b", At: 2}, {Key: "a", At: 1}, {Key: "b", At: 2}}, "03016202016101016202"},
		{[]api.Match{{Key: "\x00\xff", At: top - 1}, {Key: "\x80", At: top}}, "020200ffffffffffffffffff3f0180808080808080808040"},
		{[]api.Match{{Key: strings.Repeat("k", 64), At: 127}, {Key: "ä", At: 128}}, "0240" + strings.Repeat("6b", 64) + "7f02c3a48001"},
	} {
		want, err := hex.DecodeString(c.want)
		if err != nil {
			t.Fatal(err)
		}
		same(t, shortPlaces(c.l), op.Matches(c.l...), want)
		reads(t, "places", want, c.l)
	}
	same(t, "no argument", op.Matches(), []byte{0})
	same(t, "two arguments", op.Matches(api.Match{Key: "a", At: 1}, api.Match{Key: "b", At: 2}), placesBytes(api.Match{Key: "a", At: 1}, api.Match{Key: "b", At: 2}))
}

func TestMatchesNumbersBelowNought(t *testing.T) {
	for _, at := range []int{-1, -2, -128, -top, math.MinInt} {
		b := op.Matches(api.Match{Key: "a", At: at}, api.Match{Key: "b", At: 5}, api.Match{Key: "c", At: at})
		want := []api.Match{{Key: "a", At: 0}, {Key: "b", At: 5}, {Key: "c", At: 0}}
		same(t, fmt.Sprint(at), b, placesBytes(want...))
		reads(t, fmt.Sprint(at), b, want)
	}
	for _, at := range []int{top, top + 1, math.MaxInt} {
		reads(t, fmt.Sprint(at), op.Matches(api.Match{Key: "a", At: at}), []api.Match{{Key: "a", At: top}})
	}
}

func TestMatchesOfMany(t *testing.T) {
	for _, n := range []int{1, 2, 8, 9, 100, 127, 128, 1 << 10, 1 << 14, 1 << 16, 1<<16 + 1} {
		l := many(n)
		b := op.Matches(l...)
		same(t, fmt.Sprint(n), b, placesBytes(l...))
		reads(t, fmt.Sprint(n), b, l)
	}
	for n := 1; n <= 64; n++ {
		l := []api.Match{{Key: strings.Repeat("\xfe", n), At: n}}
		reads(t, fmt.Sprint("a key of ", n), op.Matches(l...), l)
	}
}

func TestMatchesOfNoKeys(t *testing.T) {
	for _, key := range noKeys() {
		for _, l := range [][]api.Match{
			{{Key: key, At: 1}},
			{{Key: key, At: 1}, {Key: "k", At: 2}},
			{{Key: "k", At: 1}, {Key: key, At: 2}},
			{{Key: "a", At: 1}, {Key: key, At: 2}, {Key: "b", At: 3}},
		} {
			same(t, "no key", op.Matches(l...), placesBytes(l...))
			noPlaces(t, "no key", op.Matches(l...))
		}
	}
}

func TestReadMatchesErrForm(t *testing.T) {
	noPlaces(t, "nil", nil)
	noPlaces(t, "no byte", []byte{})
	for _, l := range [][]api.Match{nil, many(1), many(2), many(3), many(20), {{Key: "k", At: top}}, {{Key: strings.Repeat("k", 64), At: 300}, {Key: "k", At: 0}}} {
		b := placesBytes(l...)
		for n := range b {
			noPlaces(t, fmt.Sprint("cut behind ", n), b[:n])
		}
		for _, more := range []string{"\x00", "\x01", "\x80", "\xff", "\x01k\x00", string(b)} {
			noPlaces(t, "with something behind it", append(slices.Clone(b), more...))
		}
	}
}

func TestReadMatchesNumbers(t *testing.T) {
	for _, l := range [][]part{
		{{0, ""}},
		{{1, ""}, {1, "k"}, {0, ""}},
		{{2, ""}, {64, strings.Repeat("k", 64)}, {300, ""}, {3, "key"}, {5, ""}},
	} {
		for _, b := range wrongParts(l...) {
			noPlaces(t, "a number or a length", b)
		}
	}
}

// soon tells of a call that goes on for long, or takes more memory than this.
func soon(t *testing.T, name string, bound uint64, call func()) {
	t.Helper()
	done := make(chan uint64)
	go func() {
		var before, behind runtime.MemStats
		runtime.ReadMemStats(&before)
		call()
		runtime.ReadMemStats(&behind)
		done <- behind.TotalAlloc - before.TotalAlloc
	}()
	select {
	case spent := <-done:
		if spent > bound {
			t.Errorf("%s: %d bytes of memory, want %d at most", name, spent, bound)
		}
	case <-time.After(20 * time.Second):
		t.Fatalf("%s: no end", name)
	}
}

func TestReadMatchesCountThatLies(t *testing.T) {
	for there := range 12 {
		l := many(there)
		for _, told := range []int{0, 1, 2, 3, 4, 5, 6, 7, 8, 9, 10, 11, 12, 13, 127, 128, 1 << 16, 1 << 20, 1 << 28, 1 << 31, 1 << 32, 1<<32 + there, 1 << 40, 1 << 59, 1 << 61, top - 1, top} {
			if told == there {
				continue
			}
			b := append(nums(nil, told), placesBytes(l...)[1:]...)
			name := fmt.Sprint(there, " places, told ", told)
			soon(t, name, 1<<20, func() { noPlaces(t, name, b) })
		}
	}
	for _, body := range []string{strings.Repeat("\x01k\x00", 1<<18), strings.Repeat("\x00\x00", 1<<19), strings.Repeat("\x00", 1<<20), strings.Repeat("\x41", 1<<20), strings.Repeat("\xff", 1<<20)} {
		for _, told := range []int{1<<18 + 1, 1<<18 - 1, 1 << 19, 1 << 20, 1 << 22, 1 << 31, 1 << 40, top} {
			name := fmt.Sprint("a mebibyte or so, told ", told)
			soon(t, name, 1<<26, func() { noPlaces(t, name, append(nums(nil, told), body...)) })
		}
	}
}

// P13.4

func TestBytesNextToTheseAreTakenAsThePlainReaderTakesThem(t *testing.T) {
	for _, b := range [][]byte{
		opBytes(api.Op{Kind: api.OpPut, Client: 1, Seq: 2, Key: "k", Text: []byte("t")}),
		opBytes(api.Op{Kind: api.OpDelete, Client: 300, Seq: client, Key: "key"}),
		opBytes(api.Op{Kind: api.OpPut, Client: client, Seq: client - 1, Key: strings.Repeat("k", 64), Text: []byte("\x00\x80\x00")}),
		opBytes(api.Op{Kind: api.OpPut, Client: 1, Seq: 2, Key: "k", Text: make([]byte, 128)}),
		replyBytes(0), replyBytes(100, 1), replyBytes(7, 300, 0, top), replyBytes(1, 1, 2, 3, 4, 5, 6, 7, 8),
		placesBytes(), placesBytes(many(1)...), placesBytes(many(3)...), placesBytes(api.Match{Key: strings.Repeat("k", 64), At: 300}),
	} {
		asPlain(t, "itself", b)
		for i := range b {
			for with := range 256 {
				turned := slices.Clone(b)
				turned[i] = byte(with)
				asPlain(t, "a byte turned", turned)
			}
			for _, with := range []byte{0, 1, 2, 0x7f, 0x80, 0xff} {
				asPlain(t, "a byte more", slices.Insert(slices.Clone(b), i, with))
			}
			asPlain(t, "a byte less", slices.Delete(slices.Clone(b), i, i+1))
		}
	}
}

func TestAllShortBytesAreTakenAsThePlainReaderTakesThem(t *testing.T) {
	var all func(b []byte, of []byte, more int)
	all = func(b []byte, of []byte, more int) {
		asPlain(t, "short", b)
		if more == 0 || t.Failed() {
			return
		}
		for _, next := range of {
			all(append(b, next), of, more-1)
		}
	}
	each := make([]byte, 256)
	for i := range each {
		each[i] = byte(i)
	}
	all(nil, each, 2)
	all(nil, []byte{0, 1, 2, 3, 0x80}, 8)
	all(nil, []byte{0, 1, 9, 0x64, 0x65}, 6)
}

func TestRoundTrip(t *testing.T) {
	for _, o := range ops() {
		asPlain(t, "an op", encoded(t, "an op", o))
	}
	for _, n := range numbers() {
		for e := range 101 {
			asPlain(t, "a reply", op.EncodeReply(op.Reply{Err: api.Errno(e), Nums: []int{n, e, top - n}}))
		}
	}
	for n := range 40 {
		asPlain(t, "places", op.Matches(many(n)...))
	}
}

// roomy is bytes with something in the room behind their end.
func roomy(b string) []byte { return []byte(b + spare)[:len(b)] }

// roomBytes is all that stands in bytes and in the room behind their end.
func roomBytes(b []byte) string { return string(b[:cap(b)]) }

// spoil writes over bytes, and into the room behind their end.
func spoil(b []byte) {
	b = b[:cap(b)]
	for i := range b {
		b[i] ^= 0x55
	}
}

// spoilNums writes over numbers, and into the room behind their end.
func spoilNums(l []int) {
	l = l[:cap(l)]
	for i := range l {
		l[i] = ^l[i]
	}
}

// spoilPlaces writes over places, and into the room behind their end.
func spoilPlaces(l []api.Match) {
	l = l[:cap(l)]
	for i := range l {
		l[i] = api.Match{Key: "spoilt", At: -1}
	}
}

func TestOpsAreNeitherChangedNorKept(t *testing.T) {
	for _, text := range texts() {
		o := api.Op{Kind: api.OpPut, Client: 3, Seq: 4, Key: "key", Text: roomy(text)}
		want := opBytes(o)
		before := roomBytes(o.Text)
		first, second := encoded(t, "first", o), encoded(t, "second", o)
		if roomBytes(o.Text) != before {
			t.Errorf("a text of %d bytes was changed by Encode", len(text))
		}
		spoil(o.Text)
		same(t, "behind a text that is changed", first, want)
		spoil(first)
		same(t, "behind an answer that is changed", second, want)
	}
	for _, b := range []string{"", "\x00", "\x01\x01\x02\x01k\x01", string(opBytes(api.Op{Kind: api.OpPut, Key: "k", Text: make([]byte, 4097)}))} {
		in := roomy(b)
		before := roomBytes(in)
		noOp(t, "none", in)
		if roomBytes(in) != before {
			t.Errorf("%q was changed by Decode", b)
		}
	}
	for _, o := range ops() {
		in := roomy(string(opBytes(o)))
		before := roomBytes(in)
		first, _ := op.Decode(in)
		second, _ := op.Decode(in)
		if roomBytes(in) != before {
			t.Errorf("the bytes of %s were changed by Decode", shortOp(o))
		}
		spoil(first.Text)
		if roomBytes(in) != before || !sameOp(second, o) {
			t.Errorf("%s: an answer shares its text: %s", shortOp(o), shortOp(second))
		}
		spoil(in)
		if !sameOp(second, o) {
			t.Errorf("%s: behind bytes that are changed: %s", shortOp(o), shortOp(second))
		}
	}
}

func TestRepliesAreNeitherChangedNorKept(t *testing.T) {
	for n := range 12 {
		in := make([]int, n, n+5)
		for i := range in[:cap(in)] {
			in[:cap(in)][i] = i - 1
		}
		before := slices.Clone(in[:cap(in)])
		want := replyBytes(9, in[:min(n, 8)]...)
		first := op.EncodeReply(op.Reply{Err: 9, Nums: in})
		second := op.EncodeReply(op.Reply{Err: 9, Nums: in})
		if !slices.Equal(in[:cap(in)], before) {
			t.Errorf("numbers were changed by EncodeReply: %v, want %v", in[:cap(in)], before)
		}
		spoilNums(in)
		same(t, "behind numbers that are changed", first, want)
		spoil(first)
		same(t, "behind an answer that is changed", second, want)
	}
	for n := range 9 {
		want := op.Reply{Err: 9, Nums: []int{0, 1, 2, 300, 4, 5, top, 7}[:n]}
		in := roomy(string(replyBytes(9, want.Nums...)))
		before := roomBytes(in)
		first, _ := op.DecodeReply(in)
		second, _ := op.DecodeReply(in)
		if roomBytes(in) != before {
			t.Errorf("bytes were changed by DecodeReply: %q, want %q", roomBytes(in), before)
		}
		spoilNums(first.Nums)
		spoil(in)
		if !sameReply(second, want) {
			t.Errorf("behind changes: %v, want %v", second, want)
		}
	}
	in := roomy("\x65\x01\x01")
	before := roomBytes(in)
	noReply(t, "none", in)
	if roomBytes(in) != before {
		t.Errorf("bytes were changed by DecodeReply: %q, want %q", roomBytes(in), before)
	}
}

func TestPlacesAreNeitherChangedNorKept(t *testing.T) {
	for n := range 12 {
		all := many(n + 5)
		all[0].At = -7
		in, before := all[:n], slices.Clone(all)
		want := placesBytes(in...)
		first, second := op.Matches(in...), op.Matches(in...)
		if !slices.Equal(all, before) {
			t.Errorf("places were changed by Matches: %s, want %s", shortPlaces(all), shortPlaces(before))
		}
		spoilPlaces(all)
		same(t, "behind places that are changed", first, want)
		spoil(first)
		same(t, "behind an answer that is changed", second, want)
	}
	for n := range 12 {
		want := many(n)
		in := roomy(string(placesBytes(want...)))
		before := roomBytes(in)
		first, _ := op.ReadMatches(in)
		second, _ := op.ReadMatches(in)
		if roomBytes(in) != before {
			t.Errorf("bytes were changed by ReadMatches: %q, want %q", roomBytes(in), before)
		}
		spoilPlaces(first)
		spoil(in)
		if !slices.Equal(second, want) {
			t.Errorf("behind changes: %s, want %s", shortPlaces(second), shortPlaces(want))
		}
	}
	in := roomy("\x02\x01k\x00\x00\x00")
	before := roomBytes(in)
	noPlaces(t, "none", in)
	if roomBytes(in) != before {
		t.Errorf("bytes were changed by ReadMatches: %q, want %q", roomBytes(in), before)
	}
}
