package frame

import "quarterday/api"

const more = 128 // in a byte: another one of the same number follows

// writer has what is written so far, and the first thing that is wrong with it.
type writer struct {
	bytes []byte
	err   error
}

// fail keeps what is wrong, if nothing was so far.
func (w *writer) fail(e api.Errno) {
	if w.err == nil {
		w.err = e
	}
}

// all is what was written, or what was wrong.
func (w *writer) all() ([]byte, error) {
	if w.err != nil {
		return nil, w.err
	}
	return w.bytes, nil
}

// number writes one, seven bits a byte, the low ones first.
func (w *writer) number(n int) {
	u := 2 * uint64(n)
	if n < 0 {
		u = -u - 1
	}
	for ; u >= more; u /= more {
		w.bytes = append(w.bytes, byte(u%more+more))
	}
	w.bytes = append(w.bytes, byte(u))
}

// within writes a number that has bounds.
func (w *writer) within(n, least, most int) {
	if n < least || n > most {
		w.fail(api.ErrRange)
	}
	w.number(n)
}

// small writes an Entity or a Period.
func (w *writer) small(n int) {
	w.within(n, 0, api.MaxItems)
}

// amount writes one.
func (w *writer) amount(n int) {
	w.within(n, -api.MaxAmount, api.MaxAmount)
}

// text writes one, its length ahead.
func (w *writer) text(s string) {
	if len(s) > api.MaxName { // it is not written, because it may be long, and be handed in many times
		w.fail(api.ErrFull)
		return
	}
	w.number(len(s))
	w.bytes = append(w.bytes, s...)
}
