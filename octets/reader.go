package octets

import "pleach/api"

// Reader reads what a Pen has put. What ends too early it leaves by a panic: it works within Read alone.
type Reader struct{ rest string }

// Read tells the thing that a text begins with, and how many bytes it has; ErrForm, if the text ends too early.
func Read[T any](text string, thing func(r *Reader) T) (read T, n int, err api.Errno) {
	defer func() {
		if left := recover(); left != nil {
			err = left.(api.Errno) // any other panic is a fault in thing, and not held back
		}
	}()
	r := &Reader{rest: text}
	read = thing(r)
	return read, len(text) - len(r.rest), api.OK
}

// List reads how many things there are, in a byte, and they.
func List[T any](r *Reader, thing func(r *Reader) T) []T {
	var l []T
	for range r.Byte() {
		l = append(l, thing(r))
	}
	return l
}

// Byte reads a number of one byte.
func (r *Reader) Byte() int { return int(r.take(1)[0]) }

// Pair reads a number of two bytes.
func (r *Reader) Pair() int {
	higher := r.Byte()
	return ofByte*higher + r.Byte()
}

// Text reads a text, with how many bytes it has ahead.
func (r *Reader) Text() string { return r.take(r.Byte()) }

// take has the next bytes.
func (r *Reader) take(n int) string {
	if n > len(r.rest) {
		panic(api.ErrForm)
	}
	taken := r.rest[:n]
	r.rest = r.rest[n:]
	return taken
}
