package block_test

import (
	"bytes"
	"math"
	"slices"
	"strings"
	"testing"

	"quarterday/api"
	"quarterday/block"
	"quarterday/plain"
)

const (
	most  = math.MaxInt
	least = math.MinInt
	torn  = "TORN" // what is read of a block that can not be read
)

// disk makes one.
func disk(t *testing.T, blocks int) *block.Disk {
	t.Helper()
	d, err := block.New(blocks)
	if err != nil || d == nil || d.Blocks() != blocks {
		t.Fatalf("New(%d) = %v, %v", blocks, d, err)
	}
	return d
}

// told fails the test where a call's error is another one.
func told(t *testing.T, call string, err error, want api.Errno) {
	t.Helper()
	if plain.Told(err) != want {
		t.Errorf("%s: %v, want %v", call, err, want)
	}
}

// writes writes texts into blocks, of which the number stands ahead: "0abc" writes abc into block 0.
func writes(t *testing.T, d *block.Disk, list ...string) {
	t.Helper()
	for _, w := range list {
		told(t, "Write", d.Write(int(w[0]-'0'), []byte(w[1:])), api.OK)
	}
}

// flush is one without an error.
func flush(t *testing.T, d *block.Disk) {
	t.Helper()
	told(t, "Flush", d.Flush(), api.OK)
}

// has fails the test where the disk has other blocks, or other bytes in them than texts and 0 behind these; the blocks behind the texts have 0 alone.
func has(t *testing.T, d *block.Disk, texts ...string) {
	t.Helper()
	for i := range d.Blocks() {
		text := ""
		if i < len(texts) {
			text = texts[i]
		}
		b, err := d.Read(i)
		if text == torn {
			if plain.Told(err) != api.ErrFile || len(b) != 0 {
				t.Errorf("Read(%d) = %q, %v, want ErrFile alone", i, b, err)
			}
		} else if want := text + strings.Repeat("\x00", 64-len(text)); err != nil || string(b) != want {
			t.Errorf("Read(%d) = %q, %v, want %q", i, b, err, want)
		}
	}
	for _, i := range []int{-1, least, d.Blocks(), d.Blocks() + 1, api.MaxBlocks, most} {
		if b, err := d.Read(i); plain.Told(err) != api.ErrRange || len(b) != 0 {
			t.Errorf("Read(%d) of %d = %q, %v, want ErrRange alone", i, d.Blocks(), b, err)
		}
	}
}

func TestB1New(t *testing.T) {
	for _, n := range []int{1, 2, 3, 4, 63, 64, 65, 90, 199, api.MaxBlocks} {
		d := disk(t, n)
		has(t, d)
		if d.Steps() != 0 {
			t.Errorf("New(%d): %d steps", n, d.Steps())
		}
	}
	for _, n := range []int{0, -1, -2, api.MaxBlocks + 1, 256, 1 << 31, 1 << 32, 1<<32 + 1, most, least, least + 1} {
		if d, err := block.New(n); plain.Told(err) != api.ErrRange || d != nil {
			t.Errorf("New(%d) = %v, %v, want ErrRange alone", n, d, err)
		}
	}
}

// TestB1Place: a Write is of its block alone, and of none that is not there.
func TestB1Place(t *testing.T) {
	for _, n := range []int{1, 2, 7, api.MaxBlocks} {
		d := disk(t, n)
		want := make([]string, n)
		for _, i := range []int{0, n - 1, n / 2, 0} {
			want[i] += "x" + string(rune('a'+i%26))
			told(t, "Write", d.Write(i, []byte(want[i])), api.OK)
			has(t, d, want...)
		}
		for _, i := range []int{-1, -2, n, n + 1, 256, -256, 1 << 32, most, least} {
			told(t, "Write", d.Write(i, []byte("no")), api.ErrRange)
			told(t, "Write of nothing", d.Write(i, nil), api.ErrRange)
			told(t, "Write of too much", d.Write(i, make([]byte, 65)), api.ErrRange)
		}
		has(t, d, want...)
		if d.Blocks() != n {
			t.Errorf("%d blocks, want %d", d.Blocks(), n)
		}
	}
}

// TestB1Size: 0 to 64 bytes, with 0 behind them whatever the block had; more are none.
func TestB1Size(t *testing.T) {
	full := strings.Repeat("\xff", api.BlockSize)
	for n := range api.BlockSize + 1 {
		d := disk(t, 3)
		writes(t, d, "0"+full, "1"+full, "2"+full)
		told(t, "Write", d.Write(1, bytes.Repeat([]byte{byte(n + 1)}, n)), api.OK)
		has(t, d, full, strings.Repeat(string([]byte{byte(n + 1)}), n), full)
		for _, more := range []int{65, 66, 128, 200, 256, 320, 1 << 16, 1 << 20} {
			told(t, "Write of too much", d.Write(1, make([]byte, more)), api.ErrFull)
		}
		has(t, d, full, strings.Repeat(string([]byte{byte(n + 1)}), n), full)
	}
	for _, b := range [][]byte{nil, {}, make([]byte, 0, 99), []byte("behind")[:0]} {
		d := disk(t, 1)
		writes(t, d, "0"+full)
		told(t, "Write of nothing", d.Write(0, b), api.OK)
		has(t, d, "")
	}
}

// TestB1Bytes: any byte is read as it was written.
func TestB1Bytes(t *testing.T) {
	d := disk(t, 4)
	var want []string
	for i := range 4 {
		b := make([]byte, api.BlockSize)
		for j := range b {
			b[j] = byte(i*64 + j)
		}
		told(t, "Write", d.Write(i, b), api.OK)
		want = append(want, string(b))
	}
	has(t, d, want...)
	flush(t, d)
	has(t, d, want...)
	d.Crash(nil, 0)
	has(t, d, want...)
}

// TestB1Flush: what was written is safe behind it, and what was written later is not.
func TestB1Flush(t *testing.T) {
	d := disk(t, 3)
	writes(t, d, "0a", "1bcd", "1e", "2f")
	has(t, d, "a", "e", "f")
	flush(t, d)
	has(t, d, "a", "e", "f")
	writes(t, d, "0g", "2")
	has(t, d, "g", "e", "")
	d.Crash(nil, -1)
	has(t, d, "a", "e", "f")
	flush(t, d) // of nothing
	flush(t, d)
	writes(t, d, "2h")
	flush(t, d)
	flush(t, d)
	d.Crash(nil, 0)
	has(t, d, "a", "e", "h")
}

// TestB1First: ErrState, then ErrRange, then ErrFull; with each nothing is done.
func TestB1First(t *testing.T) {
	long := make([]byte, api.BlockSize+1)
	d := disk(t, 2)
	writes(t, d, "0a", "1b")
	for _, i := range []int{-1, 2, most, least} {
		told(t, "both wrong", d.Write(i, long), api.ErrRange)
	}
	told(t, "too long", d.Write(1, long), api.ErrFull)
	d.Fail(2)
	for _, i := range []int{-1, 0, 1, 2, most, least} {
		told(t, "failing", d.Write(i, nil), api.ErrState)
		told(t, "failing, too long", d.Write(i, long), api.ErrState)
	}
	told(t, "failing", d.Flush(), api.ErrState)
	has(t, d, "a", "b") // ErrRange and ErrFile of Read as ever
	if d.Steps() != 2 {
		t.Errorf("%d steps, want 2", d.Steps())
	}
	d.Crash([]int{1}, 1)
	has(t, d, "", torn)
}

// TestB1Stays: what is handed in is as it was, and the disk shares no memory with it.
func TestB1Stays(t *testing.T) {
	for _, n := range []int{0, 1, 5, 63, 64, 65, 80} {
		memory := bytes.Repeat([]byte{'m'}, n+80)
		was := slices.Clone(memory)
		d := disk(t, 2)
		bad := d.Write(1, memory[:n]) != nil
		d.Write(7, memory[:n])
		if bad != (n > 64) || !bytes.Equal(memory, was) {
			t.Errorf("%d bytes: wrong is %v; handed in is %q now, was %q", n, bad, memory, was)
		}
		clear(memory)
		want := ""
		if !bad {
			want = string(was[:n])
		}
		has(t, d, "", want)
		d.Crash([]int{0}, -1)
		has(t, d, "", want)
	}
	keep := []int{3, 0, 0, -5, most, 9, 1, 2}
	was := slices.Clone(keep)
	d := disk(t, 2)
	writes(t, d, "0a", "1b")
	d.Crash(keep[:3], 0)
	if !slices.Equal(keep, was) {
		t.Errorf("handed in is %v now, was %v", keep, was)
	}
	has(t, d, torn, "")
	clear(keep)
	writes(t, d, "0c", "1d")
	d.Crash(nil, 0)
	has(t, d, torn, "")
}

// TestB1Fresh: what is read shares no memory with the disk, nor with what else is read.
func TestB1Fresh(t *testing.T) {
	d, other := disk(t, 2), disk(t, 2)
	spoil := func() (all [][]byte) {
		for i := range 2 {
			b, _ := d.Read(i)
			again, _ := d.Read(i)
			all = append(all, again)
			b = b[:cap(b)]
			for j := range b {
				b[j] = '!'
			}
		}
		return all
	}
	same := func(all [][]byte, texts ...string) {
		t.Helper()
		has(t, d, texts...)
		has(t, other)
		for i, b := range all {
			if want := texts[i] + strings.Repeat("\x00", 64-len(texts[i])); string(b) != want {
				t.Errorf("what was read of %d is %q now, was %q", i, b, want)
			}
		}
	}
	same(spoil(), "", "")
	writes(t, d, "0a", "1b")
	same(spoil(), "a", "b")
	read := spoil()
	flush(t, d)
	same(spoil(), "a", "b")
	writes(t, d, "0c")
	same(spoil(), "c", "b")
	d.Crash(nil, -1)
	same(spoil(), "a", "b")
	writes(t, d, "0d", "1e")
	d.Crash([]int{0}, -1)
	same(spoil(), "d", "b")
	if read[0][0] != 'a' || read[1][0] != 'b' {
		t.Errorf("what was read is %q now", read)
	}
}
