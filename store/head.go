package store

import (
	"quarterday/api"
	"quarterday/block"
)

// On the disk stand two heads, and behind them two blocks for each page. The newer head tells which of a page's two is the right one; a Commit writes into the other ones, and then the older head anew. So, whatever is lost or torn, one head is there, and all that it names.

const (
	heads   = 2
	nowhere = 0 // a head's block, so that no page is there
	mark    = "qd pages"
)

// Where things stand in a head's block, each behind the one ahead of it.
const (
	atTurn    = len(mark)
	atVersion = atTurn + 1
	atWhere   = atVersion + 8
	headSize  = atWhere + api.MaxPages
)

// head of a Store: what it has.
type head struct {
	block   int  // where it stands
	turn    byte // one more than the other head's, with 0 behind 255: it is the newer one
	version int
	where   [api.MaxPages]byte // the block of each page, or nowhere: it is empty
}

// other is the block of the other head.
func (h head) other() int {
	return 1 - h.block
}

// write makes this head the newest one. What it names is safe ahead of it.
func (h head) write(d *block.Disk) error {
	if err := d.Flush(); err != nil {
		return err
	}
	if err := d.Write(h.block, h.bytes()); err != nil {
		return err
	}
	return d.Flush()
}

// bytes of a head, as they are written.
func (h head) bytes() []byte {
	b := append([]byte(mark), h.turn)
	for shift := 56; shift >= 0; shift -= 8 {
		b = append(b, byte(h.version>>shift))
	}
	return append(b, h.where[:]...)
}

// readHead reads the head that stands in a block, if there is one.
func readHead(d *block.Disk, at int) (head, bool) {
	b, err := d.Read(at)
	if err != nil || string(b[:atTurn]) != mark {
		return head{}, false
	}
	h := head{block: at, turn: b[atTurn]}
	for _, x := range b[atVersion:atWhere] {
		h.version = h.version<<8 | int(x)
	}
	copy(h.where[:], b[atWhere:headSize])
	return h, true
}

// newest finds the newer head of a disk, or the one that there is.
func newest(d *block.Disk) (head, bool) {
	a, isA := readHead(d, 0)
	b, isB := readHead(d, 1)
	if isB && (!isA || b.turn == a.turn+1) {
		return b, true
	}
	return a, isA
}

// firstBlock is one of a page's two blocks.
func firstBlock(p int) byte {
	return byte(heads + p)
}

// secondBlock is the other one of them.
func secondBlock(p int) byte {
	return byte(heads + api.MaxPages + p)
}

// freeBlock is the one of a page's two blocks in which it does not stand.
func freeBlock(p int, where byte) byte {
	if where == firstBlock(p) {
		return secondBlock(p)
	}
	return firstBlock(p)
}

// writePage writes a page into a block: how many bytes it has, and these.
func writePage(d *block.Disk, at int, b []byte) error {
	return d.Write(at, append([]byte{byte(len(b))}, b...))
}

// readPage reads the page that stands in a block.
func readPage(d *block.Disk, at int) ([]byte, error) {
	b, err := d.Read(at)
	if err != nil {
		return nil, err
	}
	n := int(b[0])
	if n > pageSize { // someone else used the disk
		return nil, api.ErrFile
	}
	return b[1 : 1+n], nil
}
