// Package wire lays numbers and texts into bytes of fixed places.
package wire

import (
	"strconv"
	"strings"

	"commons/api"
)

const (
	maxRoom   = 60000 // bytes of a text, and bytes that are padded up to
	maxDigits = 18    // digits that any int has room for
)

// Writer puts things one behind the other. A zero one is ready.
type Writer struct {
	last *piece
	size int
	err  api.Errno
}

// piece is what one call put. It is never written again: so copies of a Writer
// can have pieces in common, and what is put into the one is not in the other.
type piece struct {
	before *piece
	text   string
}

// Num puts v in n bytes, the lowest first.
func (w *Writer) Num(v uint64, n int) *Writer {
	if !w.ready() {
		return w
	}
	if !isWidth(n) || v>>uint(8*n) != 0 {
		return w.fail(api.ErrArg)
	}
	return w.put(lay(v, n))
}

// Int puts v as a number without a sign, in 8 bytes.
func (w *Writer) Int(v int) *Writer {
	return w.Num(uint64(v), 8)
}

// Text puts the length of s in 2 bytes, and its bytes; it has at most room bytes.
func (w *Writer) Text(s string, room int) *Writer {
	if !w.ready() {
		return w
	}
	if !isRoom(room) {
		return w.fail(api.ErrArg)
	}
	if len(s) > room {
		return w.fail(api.ErrLong)
	}
	return w.put(lay(uint64(len(s)), 2) + s)
}

// Flag puts a byte 1 or 0.
func (w *Writer) Flag(v bool) *Writer {
	if v {
		return w.Num(1, 1)
	}
	return w.Num(0, 1)
}

// Pad puts bytes 0, till there are n bytes of all.
func (w *Writer) Pad(n int) *Writer {
	if !w.ready() {
		return w
	}
	if n > maxRoom {
		return w.fail(api.ErrArg)
	}
	if w.size > n {
		return w.fail(api.ErrLong)
	}
	return w.put(strings.Repeat("\x00", n-w.size))
}

// Bytes tells all bytes, or the first error.
func (w *Writer) Bytes() (string, api.Errno) {
	if w == nil {
		return "", api.ErrArg
	}
	if w.err != api.OK {
		return "", w.err
	}
	all := make([]byte, w.size)
	end := w.size
	for p := w.last; p != nil; p = p.before {
		end -= len(p.text)
		copy(all[end:], p.text)
	}
	return string(all), api.OK
}

func (w *Writer) ready() bool {
	return w != nil && w.err == api.OK
}

func (w *Writer) put(text string) *Writer {
	if text != "" {
		w.last = &piece{before: w.last, text: text}
		w.size += len(text)
	}
	return w
}

// fail drops what was put: behind an error nobody can ask for it.
func (w *Writer) fail(e api.Errno) *Writer {
	*w = Writer{err: e}
	return w
}

// Reader reads from the front on. A zero one has no bytes.
type Reader struct {
	rest string
	err  api.Errno
}

// NewReader makes a reader of b.
func NewReader(b string) *Reader {
	return &Reader{rest: b}
}

// Num reads a number of n bytes, the lowest first.
func (r *Reader) Num(n int) uint64 {
	if !r.ready() {
		return 0
	}
	if !isWidth(n) {
		r.fail(api.ErrArg)
		return 0
	}
	if n > len(r.rest) {
		r.fail(api.ErrShort)
		return 0
	}
	return laid(r.take(n))
}

// Int reads an int of 8 bytes.
func (r *Reader) Int() int {
	return int(r.Num(8))
}

// Text reads a text of at most room bytes.
func (r *Reader) Text(room int) string {
	if !r.ready() {
		return ""
	}
	if !isRoom(room) {
		r.fail(api.ErrArg)
		return ""
	}
	n := r.Count(room)
	if n > len(r.rest) {
		r.fail(api.ErrShort)
		return ""
	}
	return strings.Clone(r.take(n))
}

// Flag reads a byte 1 or 0.
func (r *Reader) Flag() bool {
	v := r.Num(1)
	if v > 1 {
		r.fail(api.ErrForm)
		return false
	}
	return v == 1
}

// Skip reads n bytes 0.
func (r *Reader) Skip(n int) {
	if !r.ready() {
		return
	}
	switch {
	case n < 0:
		r.fail(api.ErrArg)
	case n > len(r.rest):
		r.fail(api.ErrShort)
	case !isZeros(r.rest[:n]):
		r.fail(api.ErrForm)
	default:
		r.take(n)
	}
}

// Count reads how many there are, in 2 bytes: at most so many.
func (r *Reader) Count(most int) int {
	n := int(r.Num(2))
	// Num answers 0 beside an error, and its error came first.
	if r.ready() && n > most {
		r.fail(api.ErrLong)
		return 0
	}
	return n
}

// Err tells the first error.
func (r *Reader) Err() api.Errno {
	if r == nil {
		return api.ErrArg
	}
	return r.err
}

// End tells whether all was read, but for bytes 0. What it finds does not stay.
func (r *Reader) End() api.Errno {
	if !r.ready() {
		return r.Err()
	}
	if !isZeros(r.rest) {
		return api.ErrForm
	}
	return api.OK
}

func (r *Reader) ready() bool {
	return r != nil && r.err == api.OK
}

// take reads n bytes, which are there.
func (r *Reader) take(n int) string {
	front := r.rest[:n]
	r.rest = r.rest[n:]
	return front
}

// fail drops what was not read: behind an error nobody can ask for it.
func (r *Reader) fail(e api.Errno) {
	*r = Reader{err: e}
}

// Digits tells an int in decimal digits.
func Digits(v int) string {
	return strconv.Itoa(v)
}

// Number tells the int that Digits tells so, of 1 to 18 digits.
func Number(s string) (int, api.Errno) {
	digits := strings.TrimPrefix(s, "-")
	if s == "-0" || !isNatural(digits) {
		return 0, api.ErrArg
	}
	v := 0
	for i := range len(digits) {
		v = 10*v + int(digits[i]-'0')
	}
	if len(digits) < len(s) {
		v = -v
	}
	return v, api.OK
}

// lay lays the n lowest bytes of v, the lowest first.
func lay(v uint64, n int) string {
	b := make([]byte, n)
	for i := range b {
		b[i] = byte(v >> uint(8*i))
	}
	return string(b)
}

// laid tells the number that lay has laid.
func laid(b string) uint64 {
	v := uint64(0)
	for i := range len(b) {
		v |= uint64(b[i]) << uint(8*i)
	}
	return v
}

func isWidth(n int) bool {
	return n >= 1 && n <= 8
}

func isRoom(n int) bool {
	return n >= 0 && n <= maxRoom
}

func isZeros(s string) bool {
	return strings.Count(s, "\x00") == len(s)
}

// isNatural tells whether s is digits of a number not below 0, none too many ahead.
func isNatural(s string) bool {
	if len(s) < 1 || len(s) > maxDigits {
		return false
	}
	if s[0] == '0' && len(s) > 1 {
		return false
	}
	for i := range len(s) {
		if s[i] < '0' || s[i] > '9' {
			return false
		}
	}
	return true
}
