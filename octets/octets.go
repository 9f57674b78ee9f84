// Package octets is layer 1: it reads bytes within their bounds, each fault with its place, and writes them.
package octets

import "colloquy/api"

// Reader has bytes, a place in them, and where its bytes begin.
type Reader struct {
	bytes []byte
	at    int
	begin int
}

// NewReader makes a reader of s, whose bytes begin at 0.
func NewReader(s string) *Reader { return &Reader{bytes: []byte(s)} }

// Byte answers the byte at the place, which is one further then.
func (r *Reader) Byte() (b byte, err error) {
	defer func() { err = faultOf(recover()) }()
	return r.next(1)[0], nil
}

// Take answers the next n bytes; the place is behind them then.
func (r *Reader) Take(n int) (s string, err error) {
	defer func() { err = faultOf(recover()) }()
	return string(r.next(n)), nil
}

// Part answers a reader of its own, of the next n bytes, which begin where they stand; the place is behind them then.
func (r *Reader) Part(n int) (p *Reader, err error) {
	defer func() { err = faultOf(recover()) }()
	begin := r.Place()
	return &Reader{bytes: r.next(n), begin: begin}, nil
}

// Place answers the place, as it is told.
func (r *Reader) Place() int {
	if r == nil {
		return 0
	}
	return r.begin + r.at
}

// Left answers how many bytes are left.
func (r *Reader) Left() int {
	if r == nil {
		return 0
	}
	return len(r.bytes) - r.at
}

// End answers a fault, if a byte is left.
func (r *Reader) End() (err error) {
	defer func() { err = faultOf(recover()) }()
	r.refuse(r == nil, api.ErrNil)
	r.refuse(r.Left() > 0, api.ErrLong)
	return nil
}

// next goes behind the next n bytes, and answers them with no room behind them, as the bytes there are the whole reader's.
func (r *Reader) next(n int) []byte {
	r.refuse(r == nil, api.ErrNil)
	r.refuse(n < 0, api.ErrArg)
	r.refuse(n > r.Left(), api.ErrShort)
	from, to := r.at, r.at+n
	r.at = to
	return r.bytes[from:to:to]
}

// refuse gives up with a fault at the place, if something is wrong.
func (r *Reader) refuse(wrong bool, code api.Errno) {
	if wrong {
		panic(&api.Fault{Code: code, At: r.Place()})
	}
}

// faultOf makes an error of what a call gave up with: a fault, or nothing, as readers give up with nothing else.
func faultOf(up any) error {
	if f, is := up.(*api.Fault); is {
		return f
	}
	return nil
}

// Writer has bytes.
type Writer struct {
	bytes []byte
}

// NewWriter makes a writer without bytes.
func NewWriter() *Writer { return &Writer{} }

// Byte lays b behind the writer's bytes.
func (w *Writer) Byte(b byte) {
	if w != nil {
		w.bytes = append(w.bytes, b)
	}
}

// Put lays s behind the writer's bytes.
func (w *Writer) Put(s string) {
	if w != nil {
		w.bytes = append(w.bytes, s...)
	}
}

// Text answers the writer's bytes.
func (w *Writer) Text() string {
	if w == nil {
		return ""
	}
	return string(w.bytes)
}

// Len answers how many bytes the writer has.
func (w *Writer) Len() int {
	if w == nil {
		return 0
	}
	return len(w.bytes)
}
