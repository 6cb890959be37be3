package disk_test

import (
	"bytes"
	"slices"
	"testing"

	"deedbox/api"
	"deedbox/disk"
)

// checkSeen holds what was seen against what is wanted.
func checkSeen(t *testing.T, d *disk.Disk, want []api.Touch) {
	t.Helper()
	if got := d.Seen(); !sameTouches(got, want) {
		t.Errorf("%d touches were seen that are not the %d that are wanted", len(got), len(want))
	}
}

// TestSeen: 9.6, reads (without bytes), writes with theirs, flushes at -1, in order; neither what was refused, nor looks, pokes, plots and crashes.
func TestSeen(t *testing.T) {
	d, _ := newDisk(t, 4)
	d.Plot([]api.Poke{ahead(1, bytesAt(1, block(7)))})
	write(t, d, 1, block(1))
	checkRead(t, d, 1, block(7))
	d.Read(4)
	d.Write(4, block(1))
	d.Write(1, nil)
	d.Look(2)
	write(t, d, 3, block(2))
	d.Poke(bytesAt(3, block(8)))
	flush(t, d)
	flush(t, d)
	d.Crash([]bool{true})
	checkRead(t, d, 0, noughts())
	checkSeen(t, d, []api.Touch{
		{Kind: api.TouchWrite, At: 1, Bytes: block(1)},
		{Kind: api.TouchRead, At: 1},
		{Kind: api.TouchWrite, At: 3, Bytes: block(2)},
		{Kind: api.TouchFlush, At: -1},
		{Kind: api.TouchFlush, At: -1},
		{Kind: api.TouchRead, At: 0},
	})
}

// TestSeenAsThePowerGoes: 9.6, the step at which the power goes is seen just if it was done, of each kind; none behind it is, until the power comes again.
func TestSeenAsThePowerGoes(t *testing.T) {
	for kind := range 3 {
		for _, done := range []bool{false, true} {
			d, p := newDisk(t, 4)
			p.Fuse(1, done)
			flush(t, d)
			want := []api.Touch{{Kind: api.TouchFlush, At: -1}}
			gone := api.Touch{Kind: kind, At: 2}
			switch kind {
			case api.TouchRead:
				d.Read(2)
			case api.TouchWrite:
				d.Write(2, block(1))
				gone.Bytes = block(1)
			default:
				d.Flush()
				gone.At = -1
			}
			if done {
				want = append(want, gone)
			}
			checkSeen(t, d, want)
			d.Read(3)
			d.Write(3, block(3))
			d.Flush()
			checkSeen(t, d, want)
			p.Back()
			checkRead(t, d, 3, noughts())
			checkSeen(t, d, append(want, api.Touch{Kind: api.TouchRead, At: 3}))
		}
	}
}

// TestSeenOfMany: 9.6, of many steps all are seen, and as often as it is asked.
func TestSeenOfMany(t *testing.T) {
	d, _ := newDisk(t, 16)
	var want []api.Touch
	for i := range 3000 {
		at := i * 5 % 16
		switch i % 4 {
		case 0, 1:
			write(t, d, at, block(i))
			want = append(want, api.Touch{Kind: api.TouchWrite, At: at, Bytes: block(i)})
		case 2:
			d.Read(at)
			want = append(want, api.Touch{Kind: api.TouchRead, At: at})
		default:
			flush(t, d)
			want = append(want, api.Touch{Kind: api.TouchFlush, At: -1})
		}
		if i%500 == 0 {
			checkSeen(t, d, want)
		}
	}
	checkSeen(t, d, want)
	checkSeen(t, d, want)
}

// TestBytesHandedInAreNotKept: R3, what is written is a copy; what was handed in stays as it was, and may be written over.
func TestBytesHandedInAreNotKept(t *testing.T) {
	d, _ := newDisk(t, 4)
	memory := append(block(1), block(2)...)
	was := slices.Clone(memory)
	write(t, d, 1, memory[:api.Block])
	d.Poke(bytesAt(2, memory[:3]))
	l := []api.Poke{ahead(1, bytesAt(3, memory[:api.Block])), ahead(2, bytesAt(0, memory[:700]))}
	d.Plot(l)
	if !bytes.Equal(memory, was) || len(l) != 2 || len(l[0].Bytes) != api.Block || len(l[1].Bytes) != 700 {
		t.Error("what was handed in was changed")
	}
	turn(memory)
	l[0], l[1] = ahead(1, bytesAt(1, []byte("x"))), ahead(1, bytesAt(1, []byte("y")))
	flush(t, d)
	flush(t, d)
	short := noughts()
	copy(short, was[:3])
	for at, want := range [][]byte{was[:api.Block], was[:api.Block], short, was[:api.Block]} {
		checkRead(t, d, at, want)
	}
	if got := d.Seen()[0].Bytes; !bytes.Equal(got, was[:api.Block]) {
		t.Error("what was seen is not what was written")
	}
}

// TestAnswersAreNew: R3, what was answered may be written over, and what lies behind its length, too: nothing changes on the disk, in what it was, in what was seen, or in another answer.
func TestAnswersAreNew(t *testing.T) {
	d, _ := newDisk(t, 3)
	put(t, d, 1, block(1))
	put(t, d, 1, block(2))
	write(t, d, 2, block(3))
	turnAll := func() {
		for at := range 3 {
			turn(d.Look(at))
			b, _ := d.Read(at)
			turn(b)
		}
		seen := d.Seen()
		for i := range seen {
			turn(seen[i].Bytes)
			seen[i] = api.Touch{Kind: 9, At: 9}
		}
		for i := range seen[:cap(seen)] {
			seen[:cap(seen)][i].At = 9
		}
	}
	turnAll()
	for at, want := range [][]byte{noughts(), block(2), block(3)} {
		checkBlock(t, d, at, want)
	}
	d.Poke(copyOf(0, 2))
	turnAll()
	d.Poke(back(1, 1))
	turnAll()
	for at, want := range [][]byte{block(3), block(1), block(3)} {
		checkBlock(t, d, at, want)
	}
	d.Poke(back(1, 1))
	checkBlock(t, d, 1, block(2))
	seen := d.Seen()
	for i, want := range map[int][]byte{0: block(1), 2: block(2), 4: block(3)} {
		if !bytes.Equal(seen[i].Bytes, want) {
			t.Errorf("touch %d: not what was written", i)
		}
	}
	if seen[0].Kind != api.TouchWrite || seen[5].Kind != api.TouchRead {
		t.Error("what was seen was written over")
	}
}

// TestEarlierAnswersStay: R3, what was answered once stays as it was, whatever is done behind it.
func TestEarlierAnswersStay(t *testing.T) {
	d, _ := newDisk(t, 3)
	write(t, d, 1, block(1))
	looked := d.Look(1)
	read, _ := d.Read(1)
	seen := d.Seen()
	write(t, d, 1, block(2))
	flush(t, d)
	d.Poke(bytesAt(1, block(3)))
	d.Poke(back(1, 9))
	d.Crash(nil)
	if !bytes.Equal(looked, block(1)) || !bytes.Equal(read, block(1)) {
		t.Error("a block that was answered was written over")
	}
	if !sameTouches(seen, []api.Touch{{Kind: api.TouchWrite, At: 1, Bytes: block(1)}, {Kind: api.TouchRead, At: 1}}) {
		t.Error("what was answered as seen was written over")
	}
}
