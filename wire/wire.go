// Package wire is layer 1: numbers, texts, lists as bytes. See doc/01-wire.md.
package wire

import (
	"strings"

	"phratry/api"
)

const (
	lowBits   = 127 // what a byte of a number carries
	moreBit   = 128 // said by every byte of a number but the last one
	mostBytes = 10  // of a number: nine bytes of seven bits, and one bit more
)

// fold brings a sign down to the lowest bit, so that numbers near 0 take few bytes on either side of it.
func fold(n int64) uint64 { return uint64(n)<<1 ^ uint64(n>>63) }

func unfold(z uint64) int64 { return int64(z>>1) ^ -int64(z&1) }

// Writer puts bytes together.
type Writer struct {
	made  bool // by NewWriter: a zero struct is as one that is not there
	bytes []byte
}

// NewWriter: without bytes. (P1.1)
func NewWriter() *Writer { return &Writer{made: true} }

func (w *Writer) missing() bool { return w == nil || !w.made }

// Byte: a number from 0 to 255. (P1.1)
func (w *Writer) Byte(n int) api.Errno {
	if w.missing() {
		return api.ErrNil
	}
	if n < 0 || n > 255 {
		return api.ErrArg
	}
	w.bytes = append(w.bytes, byte(n))
	return api.OK
}

// Number: any number. (P1.1)
func (w *Writer) Number(n int64) api.Errno {
	if w.missing() {
		return api.ErrNil
	}
	w.put(n)
	return api.OK
}

func (w *Writer) put(n int64) {
	z := fold(n)
	for z > lowBits {
		w.bytes = append(w.bytes, byte(z&lowBits)|moreBit)
		z >>= 7
	}
	w.bytes = append(w.bytes, byte(z))
}

// Flag: yes or no. (P1.1)
func (w *Writer) Flag(b bool) api.Errno {
	if b {
		return w.Byte(1)
	}
	return w.Byte(0)
}

// Text: its length, its bytes. (P1.1)
func (w *Writer) Text(s string) api.Errno {
	if w.missing() {
		return api.ErrNil
	}
	if len(s) > api.MaxBytes {
		return api.ErrLimit
	}
	w.put(int64(len(s)))
	w.bytes = append(w.bytes, s...)
	return api.OK
}

// List: the head of a list of so many. (P1.1)
func (w *Writer) List(n int) api.Errno {
	if w.missing() {
		return api.ErrNil
	}
	if n < 0 {
		return api.ErrArg
	}
	if n > api.MaxBytes {
		return api.ErrLimit
	}
	w.put(int64(n))
	return api.OK
}

// Bytes: all of them so far. (P1.1)
func (w *Writer) Bytes() string {
	if w.missing() {
		return ""
	}
	return string(w.bytes)
}

// Reader takes bytes apart.
type Reader struct {
	made bool // by NewReader: a zero struct is as one that is not there
	text string
	at   int
}

// NewReader: ahead of the first byte. (P1.2)
func NewReader(s string) *Reader { return &Reader{made: true, text: s} }

func (r *Reader) missing() bool { return r == nil || !r.made }

// attempt lets take go ahead byte by byte and give up anywhere: what it took by then is put back here.
func attempt[T any](r *Reader, take func(*Reader) (T, api.Errno)) (v T, e api.Errno) {
	if r.missing() {
		return v, api.ErrNil
	}
	start := r.at
	defer func() {
		if e != api.OK {
			r.at = start
		}
	}()
	return take(r)
}

// Byte: a number from 0 to 255. (P1.2)
func (r *Reader) Byte() (int, api.Errno) { return attempt(r, (*Reader).takeByte) }

// Number: any number. (P1.2)
func (r *Reader) Number() (int64, api.Errno) { return attempt(r, (*Reader).takeNumber) }

// Flag: yes or no. (P1.2)
func (r *Reader) Flag() (bool, api.Errno) { return attempt(r, (*Reader).takeFlag) }

// Text: the next one. (P1.2)
func (r *Reader) Text() (string, api.Errno) { return attempt(r, (*Reader).takeText) }

// List: how many things the list has. (P1.2)
func (r *Reader) List() (int, api.Errno) { return attempt(r, (*Reader).takeCount) }

// At: how many bytes were taken. (P1.2)
func (r *Reader) At() int {
	if r.missing() {
		return 0
	}
	return r.at
}

// End: is there nothing left? (P1.2)
func (r *Reader) End() api.Errno {
	if r.missing() {
		return api.ErrNil
	}
	if r.at < len(r.text) {
		return api.ErrForm
	}
	return api.OK
}

func (r *Reader) takeByte() (int, api.Errno) {
	if r.at >= len(r.text) {
		return 0, api.ErrForm
	}
	b := r.text[r.at]
	r.at++
	return int(b), api.OK
}

func (r *Reader) takeFlag() (bool, api.Errno) {
	b, e := r.takeByte()
	if e != api.OK {
		return false, e
	}
	if b > 1 {
		return false, api.ErrForm
	}
	return b == 1, api.OK
}

func (r *Reader) takeNumber() (int64, api.Errno) {
	var z uint64
	for i := range mostBytes {
		b, e := r.takeByte()
		if e != api.OK {
			return 0, e
		}
		if i == mostBytes-1 && b > 1 { // one bit is left of 64
			return 0, api.ErrForm
		}
		if i > 0 && b == 0 { // a byte fewer would have done
			return 0, api.ErrForm
		}
		z |= uint64(b&lowBits) << (7 * i)
		if b < moreBit {
			return unfold(z), api.OK
		}
	}
	return 0, api.ErrForm
}

// takeCount takes a number that says how many bytes or things come: texts and lists have the same bounds.
func (r *Reader) takeCount() (int, api.Errno) {
	n, e := r.takeNumber()
	if e != api.OK {
		return 0, e
	}
	if n < 0 || n > api.MaxBytes {
		return 0, api.ErrForm
	}
	return int(n), api.OK
}

func (r *Reader) takeText() (string, api.Errno) {
	n, e := r.takeCount()
	if e != api.OK {
		return "", e
	}
	if n > len(r.text)-r.at {
		return "", api.ErrForm
	}
	start := r.at
	r.at += n
	return strings.Clone(r.text[start:r.at]), api.OK // a short text must not keep all the bytes around it alive
}
