package frame

import "quarterday/api"

const numberSize = 9 // bytes: a number that may be has fewer, and so many fit into 64 bits

// reader has what is left to read. When it is bad nothing is left, and what it reads is 0 or empty.
type reader struct {
	rest []byte
	bad  bool
}

// fail tells that bytes are none that were written.
func (r *reader) fail() {
	r.bad, r.rest = true, nil
}

// take reads bytes.
func (r *reader) take(n int) []byte {
	if n > len(r.rest) {
		r.fail()
		return nil
	}
	b := r.rest[:n]
	r.rest = r.rest[n:]
	return b
}

// number reads one.
func (r *reader) number() int {
	u := uint64(0)
	for i := range min(len(r.rest), numberSize) {
		b := r.rest[i]
		u |= uint64(b%more) << (7 * i)
		if b >= more {
			continue
		}
		if b == 0 && i > 0 { // fewer bytes would have done
			break
		}
		r.rest = r.rest[i+1:]
		if u%2 == 1 {
			return -int(u/2) - 1
		}
		return int(u / 2)
	}
	r.fail()
	return 0
}

// within reads a number that has bounds.
func (r *reader) within(least, most int) int {
	n := r.number()
	if n < least || n > most {
		r.fail()
		return 0
	}
	return n
}

// small reads an Entity or a Period.
func (r *reader) small() int {
	return r.within(0, api.MaxItems)
}

// amount reads one.
func (r *reader) amount() int {
	return r.within(-api.MaxAmount, api.MaxAmount)
}

// count reads how many there are.
func (r *reader) count(most int) int {
	return r.within(0, most)
}

// text reads one.
func (r *reader) text() string {
	return string(r.take(r.count(api.MaxName)))
}
