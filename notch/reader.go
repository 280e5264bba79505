package notch

import "strings"

// A reader's state. The zero state is that of a Reader that no Open made: it is no reader, so it can't become bad either.
const (
	unopened uint8 = iota
	good
	bad
)

// Reader: see the chapter.
type Reader struct {
	view
	state uint8
}

// view is what is left of a string. It knows nothing of good and bad: its methods need a caller that does.
type view struct{ rest string }

func Open(s string) *Reader { return &Reader{view{s}, good} }

func (r *Reader) Num() uint64 {
	if !r.readable() {
		return 0
	}
	n, ok := r.number()
	if !ok {
		r.spoil()
	}
	return n
}

func (r *Reader) Text(most int) string {
	if !r.readable() {
		return ""
	}
	// Compared as uint64: the length that was read may be too great for an int.
	n, ok := r.number()
	if !ok || most < 0 || n > uint64(most) {
		r.spoil()
		return ""
	}
	return r.Take(int(n))
}

func (r *Reader) Take(n int) string {
	if !r.readable() {
		return ""
	}
	if n < 0 || n > r.left() {
		r.spoil()
		return ""
	}
	// A clone: a result is new memory, so a short piece does not keep all of a long string.
	return strings.Clone(r.cut(n))
}

func (r *Reader) Left() int {
	if !r.readable() {
		return 0
	}
	return r.left()
}

func (r *Reader) Bad() bool { return r == nil || r.state == bad }

func (r *Reader) readable() bool { return r != nil && r.state == good }

// spoil drops what is left too: a bad reader needs none of it any more.
func (r *Reader) spoil() { *r = Reader{state: bad} }

func (v *view) left() int { return len(v.rest) }

// cut does not look how many bytes are left: its callers have to know first what to do if there are too few.
func (v *view) cut(n int) string {
	piece := v.rest[:n]
	v.rest = v.rest[n:]
	return piece
}

func (v *view) number() (uint64, bool) {
	// The cases build on each other: each one may look only as far as those above it made sure of.
	switch left := v.left(); {
	case left == 0:
		fallthrough
	case v.rest[0] > widest:
		fallthrough
	case int(v.rest[0]) > left-1:
		fallthrough
	case v.rest[0] > 0 && v.rest[1] == 0: // a shorter encoding exists
		return 0, false
	}
	w := int(v.cut(1)[0])
	n := uint64(0)
	for _, b := range []byte(v.cut(w)) {
		n = n<<8 | uint64(b)
	}
	return n, true
}
