package ahead_test

import (
	"strings"
	"testing"

	"stepstone/ahead"
	"stepstone/api"
	"stepstone/bits"
)

// reads asks for so many bits, and tells then what it is to tell.
func reads(n int, told string, e api.Errno) func(s *bits.Source) (string, api.Errno) {
	return func(s *bits.Source) (string, api.Errno) {
		for range n {
			if _, dry := s.Bit(); dry != api.OK {
				return "", dry
			}
		}
		return told, e
	}
}

// A source that is none is told, and nothing is done.
func TestNone(t *testing.T) {
	for _, s := range []*bits.Source{nil, {}} {
		told, e := ahead.Do(s, func(*bits.Source) (string, api.Errno) {
			t.Error("it is done")
			return "a", api.OK
		})
		if told != "" || e != api.ErrNil {
			t.Error(told, e)
		}
	}
}

// The source has read what its copy has, but beside an error: then it is as it was.
func TestFollows(t *testing.T) {
	const size = 30000
	s := bits.New(strings.Repeat("\x5a", size))
	at := 0
	for _, n := range []int{0, 1, 0, 7, 8, 64, 99999, 0, 100001, 3} {
		for _, e := range []api.Errno{api.ErrArg, api.ErrLong, api.ErrStuck, api.ErrBig} {
			if told, got := ahead.Do(s, reads(n, "b", e)); told != "b" || got != e || s.Read() != at || s.Dry() {
				t.Errorf("%d bits and error %d: %s, %d, %d bits read", n, e, told, got, s.Read()-at)
			}
		}
		if told, e := ahead.Do(s, reads(n, "a", api.OK)); told != "a" || e != api.OK || s.Read() != at+n || s.Dry() {
			t.Errorf("%d bits: %s, %d, %d bits read", n, told, e, s.Read()-at)
		}
		at += n
		// It goes on where the copy is: every other two bits are the same.
		if b, _ := s.Copy().Bit(); b != (at%8 == 1 || at%8 == 3 || at%8 == 4 || at%8 == 6) {
			t.Errorf("another bit at %d", at)
		}
	}
}

// A source whose copy becomes dry is dry; one that is dry already stays so.
func TestDry(t *testing.T) {
	for _, size := range []int{0, 1, 12500, 30000} {
		s := bits.New(strings.Repeat("a", size))
		if _, e := ahead.Do(s, reads(8*size, "", api.OK)); e != api.OK || s.Dry() || s.Read() != 8*size {
			t.Errorf("all bits of %d bytes: %d, %d, %t", size, e, s.Read(), s.Dry())
		}
		s = bits.New(strings.Repeat("a", size))
		if told, e := ahead.Do(s, reads(8*size+1, "a", api.OK)); told != "" || e != api.ErrDry || !s.Dry() || s.Read() != 8*size {
			t.Errorf("a bit more than %d bytes: %s, %d, %d, %t", size, told, e, s.Read(), s.Dry())
		}
		for _, e := range []api.Errno{api.OK, api.ErrArg} {
			if told, got := ahead.Do(s, reads(0, "c", e)); told != "c" || got != e || !s.Dry() || s.Read() != 8*size {
				t.Errorf("a dry one of %d bytes: %s, %d, %d, %t", size, told, got, s.Read(), s.Dry())
			}
		}
	}
	// What has run dry on the way, and tells of another error, has read nothing.
	s := bits.New("a")
	ahead.Do(s, func(s *bits.Source) (string, api.Errno) {
		s.Number(9)
		return "", api.ErrLong
	})
	if s.Dry() || s.Read() != 0 {
		t.Error("an error has made it dry")
	}
}
