package log

import (
	"bytes"

	"quarterday/api"
	"quarterday/block"
)

// On the disk stands a head, and behind it pieces, a block each, wherever there was room. The records stand one behind the other, and each piece has the next 60 bytes of them. A piece that is safe and not full is written anew into another block, and stays where it is till that is safe too: so one block more than there are pieces is enough.
//
// All that one Log writes is a sitting. A Crash may keep a piece of a sitting and lose the one ahead of it, and the next sitting has other records there. So the first piece of a sitting is marked, and has all that the sittings ahead have in that piece: the newest sitting whose first piece is there counts from that piece on, alone.

const (
	mark      = "\xffqd log" // no piece begins so: its number is less
	aside     = 2            // blocks that have no piece of their own: the head, and the one in which a piece is written anew
	marked    = 0x80         // beside how many bytes a piece has: it is the first one of its sitting
	wordSize  = 2            // bytes of a number that is greater than 255
	pieceHead = 4            // bytes ahead of those of the records
	pieceSize = api.BlockSize - pieceHead
)

// Where things stand in the head, each behind the one ahead of it.
const (
	atMany   = len(mark)
	atSince  = atMany + 1
	headSize = atSince + wordSize
)

// area is the blocks of a disk that a Log is on. They are counted from the first one of them, in which the head stands.
type area struct {
	disk       *block.Disk
	from, many int
}

// valid tells whether there are such blocks. (No disk has more than MaxBlocks.)
func (a area) valid() bool {
	return a.many >= 1 && a.from >= 0 && a.from <= a.disk.Blocks()-a.many
}

// size is how many bytes of records there is room for.
func (a area) size() int {
	return max(0, a.many-aside) * pieceSize
}

// readHead tells from which sitting on pieces count; false: there is no head, so that none does.
func (a area) readHead() (since int, laid bool) {
	b, err := a.disk.Read(a.from)
	if err != nil || string(b[:atMany]) != mark || int(b[atMany]) != a.many {
		return 0, false
	}
	return word(b[atSince:headSize]), true
}

// writeHead lets pieces count from a sitting on. What was done ahead of it is safe ahead of it.
func (a area) writeHead(since int) error {
	if err := a.disk.Flush(); err != nil {
		return err
	}
	b := append([]byte(mark), byte(a.many))
	if err := a.disk.Write(a.from, addWord(b, since)); err != nil {
		return err
	}
	return a.disk.Flush()
}

// lay makes an area without a head an empty one with a head. What looks like a piece there is none.
func (a area) lay() error {
	for _, p := range a.pieces() {
		if err := a.disk.Write(a.from+p.at, nil); err != nil {
			return err
		}
	}
	return a.writeHead(1)
}

// pieces reads all that are there.
func (a area) pieces() (all []piece) {
	for at := 1; at < a.many; at++ {
		if p, is := a.readPiece(at); is {
			all = append(all, p)
		}
	}
	return all
}

// piece is what a block has of the records.
type piece struct {
	at      int // its block
	number  int
	sitting int // from 1 on
	first   bool
	bytes   []byte
}

// readPiece reads the piece that stands in a block, if there is one.
func (a area) readPiece(at int) (piece, bool) {
	b, err := a.disk.Read(a.from + at)
	if err != nil {
		return piece{}, false
	}
	p := piece{at: at, number: int(b[0]), sitting: word(b[1:3]), first: b[3]&marked != 0}
	many := int(b[3] &^ marked)
	if p.number*pieceSize >= a.size() || many < 1 || many > pieceSize {
		return piece{}, false
	}
	p.bytes = b[pieceHead : pieceHead+many]
	return p, true
}

// block is a piece as it is written.
func (p piece) block() []byte {
	many := byte(len(p.bytes))
	if p.first {
		many |= marked
	}
	b := append(addWord([]byte{byte(p.number)}, p.sitting), many)
	return append(b, p.bytes...)
}

// writePiece writes a piece into its block.
func (a area) writePiece(p piece) error {
	return a.disk.Write(a.from+p.at, p.block())
}

// has tells whether a piece stands in its block.
func (a area) has(p piece) bool {
	b, err := a.disk.Read(a.from + p.at)
	return err == nil && bytes.HasPrefix(b, p.block())
}

// newest is the last sitting of which there is a piece, or the one ahead of those that count.
func newest(all []piece, since int) int {
	last := since - 1
	for _, p := range all {
		last = max(last, p.sitting)
	}
	return last
}

// chain finds the pieces that count, in order.
func chain(all []piece, since int) (list []piece) {
	start := piece{sitting: since - 1} // one that does not count, so that none ahead of it does
	for _, p := range all {
		if p.first && p.sitting > start.sitting {
			start = p
		}
	}
	var best [api.MaxBlocks]piece // of each number
	for _, p := range all {
		counts := p.number < start.number || p.sitting == start.sitting
		if counts && p.sitting >= since && p.over(best[p.number]) {
			best[p.number] = p
		}
	}
	for _, p := range best {
		if p.sitting == 0 {
			break
		}
		list = append(list, p)
		if len(p.bytes) < pieceSize {
			break
		}
	}
	return list
}

// over tells whether a piece was written behind another one of its number.
func (p piece) over(q piece) bool {
	return p.sitting > q.sitting || p.sitting == q.sitting && len(p.bytes) > len(q.bytes)
}

// word reads a number of two bytes.
func word(b []byte) int {
	return int(b[0])<<8 | int(b[1])
}

// addWord writes a number behind bytes.
func addWord(b []byte, n int) []byte {
	return append(b, byte(n>>8), byte(n))
}
