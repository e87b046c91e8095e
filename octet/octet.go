// Package octet is numbers as bytes: see DOC.md, chapter 1.
package octet

const (
	most     = 1 << 62 // the greatest number that is laid
	maxBytes = 9       // most takes nine bytes of seven digits; any number of ten is too great or too long
	digits   = 7
	more     = 1 << digits // set in each byte but a number's last
)

// Writer is bytes that are laid one behind the other.
type Writer struct{ laid []byte }

// Nums lays numbers from 0 on.
func (w *Writer) Nums(v ...int) {
	if w == nil {
		return
	}
	for _, n := range v {
		n = min(max(n, 0), most)
		for n >= more {
			w.laid = append(w.laid, byte(n%more+more))
			n >>= digits
		}
		w.laid = append(w.laid, byte(n))
	}
}

// Bytes lays rows of bytes, each with its length.
func (w *Writer) Bytes(p ...[]byte) {
	for _, row := range p {
		w.Nums(len(row))
		w.Raw(row...)
	}
}

// Raw lays bytes as they are.
func (w *Writer) Raw(p ...byte) {
	if w != nil {
		w.laid = append(w.laid, p...)
	}
}

// Out is what was laid.
func (w *Writer) Out() []byte {
	if w == nil {
		return nil
	}
	return Join(w.laid)
}

// Reader is bytes that are taken one by one; the first error stays.
type Reader struct {
	left []byte
	bad  bool
}

// NewReader takes from bytes.
func NewReader(p []byte) *Reader {
	// A copy: who handed p in may change it while it is read.
	return &Reader{left: Join(p)}
}

// Num takes a number.
func (r *Reader) Num() int {
	if !r.Good() {
		return 0
	}
	n := 0
	for i, b := range r.left {
		if i == maxBytes {
			break
		}
		n += int(b%more) << (digits * i)
		if b >= more {
			continue
		}
		// A last byte 00 behind others adds nothing: no Writer lays it, and each number is to have one form.
		if n > most || b == 0 && i > 0 {
			break
		}
		r.left = r.left[i+1:]
		return n
	}
	r.Bad()
	return 0
}

// Nums takes numbers into places.
func (r *Reader) Nums(to ...*int) {
	for _, place := range to {
		n := r.Num()
		if place != nil {
			*place = n
		}
	}
}

// Bytes takes a row of bytes.
func (r *Reader) Bytes() []byte {
	return r.Raw(r.Num())
}

// Raw takes so many bytes.
func (r *Reader) Raw(n int) []byte {
	if n < 0 || n > r.Left() {
		r.Bad()
		return nil
	}
	if n == 0 {
		return nil
	}
	p := Join(r.left[:n])
	r.left = r.left[n:]
	return p
}

// Left is how many bytes are left.
func (r *Reader) Left() int {
	if r == nil {
		return 0
	}
	return len(r.left)
}

// Bad makes it err, if it does not yet.
func (r *Reader) Bad() {
	if r != nil {
		r.left, r.bad = nil, true
	}
}

// Good tells whether nothing erred.
func (r *Reader) Good() bool { return r != nil && !r.bad }

// Whole tells whether nothing erred, and nothing is left.
func (r *Reader) Whole() bool { return r.Good() && r.Left() == 0 }

// Join is rows of bytes, one behind the other.
func Join(p ...[]byte) []byte {
	n := 0
	for _, row := range p {
		n += len(row)
	}
	all := make([]byte, 0, n)
	for _, row := range p {
		all = append(all, row...)
	}
	return all
}

// sums is what four digits do to a check sum; four, as a table of eight would be too long to be written out.
var sums = [16]uint32{
	0x00000000, 0x1db71064, 0x3b6e20c8, 0x26d930ac,
	0x76dc4190, 0x6b6b51f4, 0x4db26158, 0x5005713c,
	0xedb88320, 0xf00f9344, 0xd6d6a3e8, 0xcb61b38c,
	0x9b64c2b0, 0x86d3d2d4, 0xa00ae278, 0xbdbdf21c,
}

// Sum is the check sum of rows of bytes, one behind the other.
func Sum(p ...[]byte) uint32 {
	sum := ^uint32(0)
	for _, row := range p {
		for _, b := range row {
			sum ^= uint32(b)
			sum = sum>>4 ^ sums[sum%16]
			sum = sum>>4 ^ sums[sum%16]
		}
	}
	return ^sum
}
