package writer_test

import (
	"bytes"
	"math"
	"math/big"
	"math/rand"
	"slices"
	"testing"

	"mirador/api"
	"mirador/reader"
	"mirador/writer"
)

// drawn are bytes that a draw of the test's own makes.
func drawn(r *rand.Rand, n int) []byte {
	b := make([]byte, n)
	r.Read(b)
	return b
}

// counted are the bytes 1, 2, 3 and so on.
func counted(n int) []byte {
	b := make([]byte, n)
	for i := range b {
		b[i] = byte(i + 1)
	}
	return b
}

// bytesOf are a number's bytes, the highest first, by the library's numbers of any size; the number has no more.
func bytesOf(n uint64, width int) []byte {
	return new(big.Int).SetUint64(n).FillBytes(make([]byte, width))
}

// greatest is the greatest number of so many bytes, from 1 to 8.
func greatest(width int) uint64 {
	n := new(big.Int).Lsh(big.NewInt(1), uint(8*width))
	return n.Sub(n, big.NewInt(1)).Uint64()
}

// idsOf are the ids that bytes are.
func idsOf(b []byte) []api.Id {
	l := make([]api.Id, len(b)/32)
	for i := range b {
		l[i/32][i%32] = b[i]
	}
	return l
}

// holds fails, unless a writer has written just these bytes, and has no fault.
func holds(t *testing.T, w *writer.Writer, want []byte) {
	t.Helper()
	// Asked twice: asking changes nothing.
	for range 2 {
		b, e := w.Done()
		if !bytes.Equal(b, want) || e != api.OK || w.Len() != len(want) || w.Err() != api.OK {
			t.Fatalf("%v, %d, len %d, fault %d; not %v", b, e, w.Len(), w.Err(), want)
		}
	}
}

// failed fails, unless a writer has written so many bytes, and has this fault.
func failed(t *testing.T, w *writer.Writer, n int, fault api.Errno) {
	t.Helper()
	for range 2 {
		b, e := w.Done()
		if len(b) != 0 || e != fault || w.Len() != n || w.Err() != fault {
			t.Fatalf("%v, %d, len %d, fault %d; not %d, %d", b, e, w.Len(), w.Err(), n, fault)
		}
	}
}

// call is a call of a writer, with a name.
type call struct {
	name string
	call func(*writer.Writer)
}

// calls are calls of all kinds: such as write nothing, such as write a little or much, and such as never could be done.
func calls() []call {
	return []call{
		{"Num(0, 1)", func(w *writer.Writer) { w.Num(0, 1) }},
		{"Num(258, 8)", func(w *writer.Writer) { w.Num(258, 8) }},
		{"Num(256, 1)", func(w *writer.Writer) { w.Num(256, 1) }},
		{"Num(1, 0)", func(w *writer.Writer) { w.Num(1, 0) }},
		{"Num(1, 9)", func(w *writer.Writer) { w.Num(1, 9) }},
		{"Num(1, MinInt)", func(w *writer.Writer) { w.Num(1, math.MinInt) }},
		{"Bytes(nil)", func(w *writer.Writer) { w.Bytes(nil) }},
		{"Bytes of one", func(w *writer.Writer) { w.Bytes([]byte{7}) }},
		{"Bytes of 300", func(w *writer.Writer) { w.Bytes(counted(300)) }},
		{"Id", func(w *writer.Writer) { w.Id(api.Id{1}) }},
		{"Hint", func(w *writer.Writer) { w.Hint(api.Hint{2}) }},
		{"Ids(nil)", func(w *writer.Writer) { w.Ids(nil) }},
		{"Ids of one", func(w *writer.Writer) { w.Ids([]api.Id{{3}}) }},
		{"Ids of 9", func(w *writer.Writer) { w.Ids(make([]api.Id, 9)) }},
		{"Fail(OK)", func(w *writer.Writer) { w.Fail(api.OK) }},
		{"Fail(ErrArg)", func(w *writer.Writer) { w.Fail(api.ErrArg) }},
		{"Fail(ErrLong)", func(w *writer.Writer) { w.Fail(api.ErrLong) }},
		{"Fail(ErrSum)", func(w *writer.Writer) { w.Fail(api.ErrSum) }},
		{"Fail(-1)", func(w *writer.Writer) { w.Fail(-1) }},
	}
}

// stuck fails, unless a writer has written so many bytes and has this fault, and stays so through every call.
func stuck(t *testing.T, w *writer.Writer, n int, fault api.Errno) {
	t.Helper()
	failed(t, w, n, fault)
	for _, c := range calls() {
		c.call(w)
		if w.Len() != n || w.Err() != fault {
			t.Fatalf("behind %s: len %d, fault %d; not %d, %d", c.name, w.Len(), w.Err(), n, fault)
		}
		failed(t, w, n, fault)
	}
}

// TestP10_1_Example holds the chapter's example.
func TestP10_1_Example(t *testing.T) {
	w := writer.New(3)
	holds(t, w, nil)
	w.Num(258, 2)
	holds(t, w, []byte{1, 2})
	w.Num(3, 2)
	stuck(t, w, 2, api.ErrLong)
}

// TestP10_1_Room fills rooms of each size byte by byte: one more byte than there is room for is too many.
func TestP10_1_Room(t *testing.T) {
	for _, room := range []int{0, 1, 2, 3, 8, 31, 32, 33, 255, 256, 257, 1000} {
		w, want := writer.New(room), counted(room)
		for i, b := range want {
			w.Bytes([]byte{b})
			if w.Len() != i+1 || w.Err() != api.OK {
				t.Fatalf("room %d: %d, %d behind %d bytes", room, w.Len(), w.Err(), i+1)
			}
		}
		holds(t, w, want)
		w.Bytes(nil)
		holds(t, w, want)
		w.Num(0, 1)
		stuck(t, w, room, api.ErrLong)
	}
}

// TestP10_1_RoomForNone makes writers with room for none, or for fewer: nothing may be written, a byte may not.
func TestP10_1_RoomForNone(t *testing.T) {
	for _, room := range []int{0, -1, -2, -8, -32, -300, math.MinInt + 1, math.MinInt} {
		for _, c := range []call{
			{"Num", func(w *writer.Writer) { w.Num(0, 1) }},
			{"Bytes", func(w *writer.Writer) { w.Bytes([]byte{0}) }},
			{"Id", func(w *writer.Writer) { w.Id(api.Id{}) }},
			{"Hint", func(w *writer.Writer) { w.Hint(api.Hint{}) }},
			{"Ids", func(w *writer.Writer) { w.Ids([]api.Id{{}}) }},
		} {
			t.Run(c.name, func(t *testing.T) {
				w := writer.New(room)
				holds(t, w, nil)
				w.Bytes(nil)
				w.Bytes([]byte{})
				w.Ids(nil)
				w.Ids([]api.Id{})
				w.Fail(api.OK)
				holds(t, w, nil)
				c.call(w)
				stuck(t, w, 0, api.ErrLong)
			})
		}
	}
}

// TestP10_1_RoomForMuch makes writers with more room than there is memory: what is written needs but its own.
func TestP10_1_RoomForMuch(t *testing.T) {
	for _, room := range []int{1 << 40, 1 << 62, math.MaxInt - 1, math.MaxInt} {
		w := writer.New(room)
		w.Num(258, 2)
		w.Bytes(counted(300))
		w.Ids(idsOf(counted(64)))
		holds(t, w, slices.Concat([]byte{1, 2}, counted(300), counted(64)))
		w.Num(1, 9)
		stuck(t, w, 366, api.ErrArg)
	}
}

// TestP10_1_NumOfEachWidth writes numbers of every width: 0, 1, the greatest, and drawn ones, behind other bytes, with room for just all of it and for more.
func TestP10_1_NumOfEachWidth(t *testing.T) {
	draw := rand.New(rand.NewSource(101))
	for width := 1; width <= 8; width++ {
		top := greatest(width)
		for _, n := range []uint64{0, 1, top, top - 1, top / 2, top/2 + 1, draw.Uint64() & top, draw.Uint64() & top, 0x0102030405060708 & top} {
			for _, spare := range []int{0, 1, 50} {
				w := writer.New(3 + width + spare)
				w.Bytes([]byte{9, 8, 7})
				w.Num(n, width)
				holds(t, w, append([]byte{9, 8, 7}, bytesOf(n, width)...))
			}
		}
	}
	for _, known := range []struct {
		n     uint64
		width int
		want  []byte
	}{
		{258, 2, []byte{1, 2}},
		{258, 4, []byte{0, 0, 1, 2}},
		{255, 1, []byte{255}},
		{1<<63 + 1, 8, []byte{128, 0, 0, 0, 0, 0, 0, 1}},
		{math.MaxUint64, 8, []byte{255, 255, 255, 255, 255, 255, 255, 255}},
		{0x010203, 3, []byte{1, 2, 3}},
	} {
		w := writer.New(8)
		w.Num(known.n, known.width)
		holds(t, w, known.want)
	}
}

// TestP10_1_NumDoesNotFit writes numbers that are too great for their width: ErrArg, with room enough or not.
func TestP10_1_NumDoesNotFit(t *testing.T) {
	for width := 1; width < 8; width++ {
		above := greatest(width) + 1
		for _, n := range []uint64{above, above + 1, 2 * above, above << 7, 1 << 63, math.MaxUint64} {
			if n < above {
				t.Fatalf("the test's own: %d", n)
			}
			for _, room := range []int{100, 3 + width, 2 + width, 3} {
				w := writer.New(room)
				w.Bytes([]byte{9, 8, 7})
				w.Num(n, width)
				stuck(t, w, 3, api.ErrArg)
			}
		}
	}
}

// TestP10_1_NumOfOtherWidths writes numbers of widths that may not be: ErrArg, also of 0, and also without room.
func TestP10_1_NumOfOtherWidths(t *testing.T) {
	for _, width := range []int{0, 9, 10, 16, 255, 256, 257, 1 << 32, 1<<32 + 1, 1 << 61, 1<<61 + 1, math.MaxInt / 8, math.MaxInt/8 + 1, math.MaxInt, -1, -8, -255, math.MinInt / 8, math.MinInt/8 - 1, math.MinInt, math.MinInt + 1} {
		for _, n := range []uint64{0, 1, 255, 1 << 63, math.MaxUint64} {
			for _, room := range []int{100, 1, 0, -1} {
				w := writer.New(room)
				w.Num(n, width)
				stuck(t, w, 0, api.ErrArg)
			}
		}
	}
}

// writes makes a call behind so many bytes, with just room for what it writes, with more, with a byte less, and with none left.
func writes(t *testing.T, ahead int, want []byte, write func(*writer.Writer)) {
	t.Helper()
	first := counted(ahead)
	for _, room := range []int{ahead, ahead + len(want) - 1, ahead + len(want), ahead + len(want) + 1, ahead + len(want) + 500} {
		if room < ahead {
			continue
		}
		w := writer.New(room)
		w.Bytes(first)
		write(w)
		if room < ahead+len(want) {
			stuck(t, w, ahead, api.ErrLong)
			continue
		}
		holds(t, w, slices.Concat(first, want))
	}
}

// TestP10_1_Bytes writes no bytes, some and many.
func TestP10_1_Bytes(t *testing.T) {
	draw := rand.New(rand.NewSource(102))
	for _, n := range []int{0, 1, 2, 15, 31, 32, 33, 255, 256, 1000} {
		b := drawn(draw, n)
		for _, ahead := range []int{0, 1, 40} {
			writes(t, ahead, b, func(w *writer.Writer) { w.Bytes(b) })
		}
	}
	for _, none := range [][]byte{nil, {}, make([]byte, 0, 70), counted(90)[:0]} {
		writes(t, 0, nil, func(w *writer.Writer) { w.Bytes(none) })
		writes(t, 5, nil, func(w *writer.Writer) { w.Bytes(none) })
	}
}

// TestP10_1_IdAndHint writes an id, and a hint.
func TestP10_1_IdAndHint(t *testing.T) {
	draw := rand.New(rand.NewSource(103))
	for _, ahead := range []int{0, 1, 16, 40} {
		for _, b := range [][]byte{make([]byte, 32), counted(32), bytes.Repeat([]byte{255}, 32), drawn(draw, 32)} {
			writes(t, ahead, b, func(w *writer.Writer) { w.Id(api.Id(b)) })
			writes(t, ahead, b[:16], func(w *writer.Writer) { w.Hint(api.Hint(b[:16])) })
		}
	}
}

// TestP10_1_Ids writes no ids, one and many.
func TestP10_1_Ids(t *testing.T) {
	draw := rand.New(rand.NewSource(104))
	for _, n := range []int{0, 1, 2, 3, 32, 100} {
		b := drawn(draw, 32*n)
		l := idsOf(b)
		for _, ahead := range []int{0, 1, 40} {
			writes(t, ahead, b, func(w *writer.Writer) { w.Ids(l) })
		}
	}
	for _, none := range [][]api.Id{nil, {}, make([]api.Id, 0, 7), idsOf(counted(96))[:0]} {
		writes(t, 0, nil, func(w *writer.Writer) { w.Ids(none) })
		writes(t, 5, nil, func(w *writer.Writer) { w.Ids(none) })
	}
}

// TestP10_1_IdsAreWrittenWhole writes more ids than there is room for: also those that there were room for are not written.
func TestP10_1_IdsAreWrittenWhole(t *testing.T) {
	for n := range 6 {
		for room := range 32*n + 2 {
			w := writer.New(room)
			w.Ids(make([]api.Id, n))
			if room >= 32*n {
				holds(t, w, make([]byte, 32*n))
				continue
			}
			stuck(t, w, 0, api.ErrLong)
		}
	}
}

// TestP10_1_ArgIsAheadOfLong makes calls that could have both faults: ErrArg is told; where there is just one, that one.
func TestP10_1_ArgIsAheadOfLong(t *testing.T) {
	for _, c := range []struct {
		n     uint64
		width int
		want  api.Errno
	}{
		{256, 1, api.ErrArg},
		{1 << 16, 2, api.ErrArg},
		{1 << 56, 7, api.ErrArg},
		{0, 0, api.ErrArg},
		{0, 9, api.ErrArg},
		{0, 1 << 62, api.ErrArg},
		{0, -1, api.ErrArg},
		{255, 1, api.ErrLong},
		{0, 1, api.ErrLong},
		{math.MaxUint64, 8, api.ErrLong},
	} {
		w := writer.New(4)
		w.Bytes(counted(4))
		w.Num(c.n, c.width)
		stuck(t, w, 4, c.want)
	}
}

// TestP10_2_Fail notes faults: each number but OK is one, and the first one stays.
func TestP10_2_Fail(t *testing.T) {
	for e := api.Errno(-3); e < 25; e++ {
		w := writer.New(50)
		w.Bytes(counted(4))
		w.Fail(e)
		if e != api.OK {
			stuck(t, w, 4, e)
			continue
		}
		holds(t, w, counted(4))
		w.Num(5, 1)
		holds(t, w, counted(5))
	}
	for _, e := range []api.Errno{math.MaxInt, math.MinInt, 1000} {
		w := writer.New(0)
		w.Fail(api.OK)
		w.Fail(e)
		stuck(t, w, 0, e)
	}
}

// TestP10_2_FailBehindAnotherFault notes faults of writers that have one: it stays.
func TestP10_2_FailBehindAnotherFault(t *testing.T) {
	for e := api.Errno(-3); e < 25; e++ {
		wrong := writer.New(5)
		wrong.Num(1, 9)
		wrong.Fail(e)
		stuck(t, wrong, 0, api.ErrArg)

		long := writer.New(5)
		long.Bytes(counted(3))
		long.Hint(api.Hint{})
		long.Fail(e)
		stuck(t, long, 3, api.ErrLong)

		told := writer.New(5)
		told.Fail(api.ErrSeal)
		told.Fail(e)
		stuck(t, told, 0, api.ErrSeal)
	}
}

// TestP10_2_BehindAFaultNothingIsWritten writes what there were room for, behind each fault: nothing is.
func TestP10_2_BehindAFaultNothingIsWritten(t *testing.T) {
	for _, fault := range []struct {
		call call
		want api.Errno
	}{
		{call{"ErrLong", func(w *writer.Writer) { w.Bytes(counted(1001)) }}, api.ErrLong},
		{call{"ErrArg", func(w *writer.Writer) { w.Num(256, 1) }}, api.ErrArg},
		{call{"ErrForm", func(w *writer.Writer) { w.Fail(api.ErrForm) }}, api.ErrForm},
	} {
		for _, c := range calls() {
			t.Run(fault.call.name+" "+c.name, func(t *testing.T) {
				w := writer.New(1000)
				w.Bytes(counted(20))
				fault.call.call(w)
				c.call(w)
				failed(t, w, 20, fault.want)
				stuck(t, w, 20, fault.want)
			})
		}
	}
}

// TestP10_2_BehindEachCall holds what was written, Len, Err and Done behind calls of each kind, one behind the other.
func TestP10_2_BehindEachCall(t *testing.T) {
	b := counted(200)
	w := writer.New(160)
	holds(t, w, nil)
	w.Num(0x010203, 3)
	holds(t, w, b[:3])
	w.Bytes(nil)
	holds(t, w, b[:3])
	w.Bytes(b[3:10])
	holds(t, w, b[:10])
	w.Id(api.Id(b[10:42]))
	holds(t, w, b[:42])
	w.Hint(api.Hint(b[42:58]))
	holds(t, w, b[:58])
	w.Ids(nil)
	holds(t, w, b[:58])
	w.Fail(api.OK)
	holds(t, w, b[:58])
	w.Ids(idsOf(b[58:154]))
	holds(t, w, b[:154])
	w.Num(155, 1)
	holds(t, w, b[:155])
	w.Bytes(b[155:160])
	holds(t, w, b[:160])
	w.Bytes([]byte{})
	holds(t, w, b[:160])
	w.Num(0, 1)
	stuck(t, w, 160, api.ErrLong)
}

// TestP10_2_Memory turns what was handed in and what Done told: what was written stays as it was, and so does what was told when more is written.
func TestP10_2_Memory(t *testing.T) {
	in, l, id, hint := counted(100), idsOf(counted(96)), api.Id{1}, api.Hint{2}
	inWas, lWas := bytes.Clone(in), slices.Clone(l)
	w := writer.New(1000)
	w.Bytes(in[:60])
	w.Ids(l[:2])
	w.Id(id)
	w.Hint(hint)
	want := slices.Concat(counted(60), counted(64), id[:], hint[:])
	if !bytes.Equal(in, inWas) || !slices.Equal(l, lWas) {
		t.Fatal("what was handed in was changed")
	}
	id[0], hint[0] = 77, 77
	clear(in)
	clear(l)
	holds(t, w, want)

	told, _ := w.Done()
	again, _ := w.Done()
	other := told[:cap(told)]
	for i := range other {
		other[i] = 99
	}
	if !bytes.Equal(again, want) {
		t.Fatal("two answers share memory")
	}
	holds(t, w, want)

	// What is written later does not reach into what was told, nor what is told into what is written.
	_ = append(again, 55, 55, 55)
	w.Bytes([]byte{1, 2, 3})
	_ = append(again, 66, 66, 66)
	holds(t, w, append(bytes.Clone(want), 1, 2, 3))
	if !bytes.Equal(again, want) {
		t.Fatal("what was told was changed")
	}
	if !bytes.Equal(in, make([]byte, 100)) || !slices.Equal(l, make([]api.Id, 3)) {
		t.Fatal("what was handed in was changed later")
	}
}

// behind makes a writer that has written so many bytes; of none no call was made.
func behind(ahead int) *writer.Writer {
	w := writer.New(300)
	if ahead > 0 {
		w.Bytes(counted(ahead))
	}
	return w
}

// TestP10_2_TurnedAtOnce turns what was handed in behind the one call that wrote it, and writes more behind it.
func TestP10_2_TurnedAtOnce(t *testing.T) {
	for _, n := range []int{32, 64, 96} {
		for _, ahead := range []int{0, 1, 50} {
			want := slices.Concat(counted(ahead), counted(n))
			in, l := counted(n), idsOf(counted(n))

			w := behind(ahead)
			w.Bytes(in)
			clear(in)
			holds(t, w, want)
			w.Num(7, 1)
			holds(t, w, append(bytes.Clone(want), 7))

			w = behind(ahead)
			w.Ids(l)
			clear(l)
			holds(t, w, want)
			w.Num(7, 1)
			holds(t, w, append(bytes.Clone(want), 7))
			if !bytes.Equal(in, make([]byte, n)) || !slices.Equal(l, make([]api.Id, n/32)) {
				t.Fatal("what was handed in was changed")
			}
		}
	}
}

// TestP10_2_WritersKnowNothingOfEachOther writes the same by turns with two writers, and into one what the other told.
func TestP10_2_WritersKnowNothingOfEachOther(t *testing.T) {
	one, other := writer.New(10), writer.New(10)
	one.Num(1, 1)
	other.Num(2, 1)
	one.Fail(api.ErrSum)
	other.Num(3, 1)
	stuck(t, one, 1, api.ErrSum)
	holds(t, other, []byte{2, 3})
	b, _ := other.Done()
	other.Bytes(b)
	holds(t, other, []byte{2, 3, 2, 3})
}

// TestP10_2_NilAndUnmade asks a nil writer, and such as no call made: 0, nothing, ErrNil, also behind each call.
func TestP10_2_NilAndUnmade(t *testing.T) {
	for name, w := range map[string]*writer.Writer{"nil": nil, "unmade": {}, "new": new(writer.Writer)} {
		t.Run(name, func(t *testing.T) { stuck(t, w, 0, api.ErrNil) })
	}
}

// piece writes a piece by a call that is drawn; it tells the piece's bytes, and what reads the same and tells its bytes.
func piece(draw *rand.Rand, w *writer.Writer) ([]byte, func(*reader.Reader) []byte) {
	switch draw.Intn(5) {
	case 0:
		width := 1 + draw.Intn(8)
		n := draw.Uint64() & greatest(width)
		w.Num(n, width)
		return bytesOf(n, width), func(r *reader.Reader) []byte { return bytesOf(r.Num(width), width) }
	case 1:
		b := drawn(draw, 32)
		w.Id(api.Id(b))
		return b, func(r *reader.Reader) []byte { id := r.Id(); return id[:] }
	case 2:
		b := drawn(draw, 16)
		w.Hint(api.Hint(b))
		return b, func(r *reader.Reader) []byte { hint := r.Hint(); return hint[:] }
	case 3:
		n := draw.Intn(4)
		b := drawn(draw, 32*n)
		w.Ids(idsOf(b))
		return b, func(r *reader.Reader) []byte {
			var got []byte
			for _, id := range r.Ids(n) {
				got = append(got, id[:]...)
			}
			return got
		}
	}
	b := drawn(draw, draw.Intn(40))
	w.Bytes(b)
	return b, func(r *reader.Reader) []byte { return r.Bytes(len(b)) }
}

// TestP10_3_WhatIsWrittenIsRead writes drawn pieces of every kind, and reads them in their order: each is as it was, and nothing is left.
func TestP10_3_WhatIsWrittenIsRead(t *testing.T) {
	draw := rand.New(rand.NewSource(1031))
	for range 400 {
		w := writer.New(2000)
		var all []byte
		var pieces [][]byte
		var reads []func(*reader.Reader) []byte
		for range draw.Intn(15) {
			b, read := piece(draw, w)
			all = append(all, b...)
			pieces, reads = append(pieces, b), append(reads, read)
			holds(t, w, all)
		}
		written, _ := w.Done()
		r := reader.New(written)
		for i, read := range reads {
			if got := read(r); !bytes.Equal(got, pieces[i]) || r.Err() != api.OK {
				t.Fatalf("the piece %d: %v, %d; not %v", i, got, r.Err(), pieces[i])
			}
		}
		if r.Left() != 0 || r.Done() != api.OK {
			t.Fatalf("left %d, done %d", r.Left(), r.Done())
		}
	}
}

// TestP10_3_NumbersAreRead writes and reads numbers of every width: 0, the greatest ones, and those around each power of two.
func TestP10_3_NumbersAreRead(t *testing.T) {
	for width := 1; width <= 8; width++ {
		for bit := range 8 * width {
			for _, n := range []uint64{0, 1<<bit - 1, 1 << bit, (1<<bit + 1) & greatest(width), greatest(width)} {
				w := writer.New(width)
				w.Num(n, width)
				b, e := w.Done()
				r := reader.New(b)
				if got := r.Num(width); got != n || e != api.OK || r.Done() != api.OK {
					t.Fatalf("%d in %d bytes: %d, %d, %d", n, width, got, e, r.Done())
				}
			}
		}
	}
}

// TestP10_2_DrawnCalls makes drawn calls, of which many cannot be done: what was written ahead of the fault is counted just so, and never goes beyond the room.
func TestP10_2_DrawnCalls(t *testing.T) {
	draw := rand.New(rand.NewSource(1032))
	for range 400 {
		room := draw.Intn(200) - 5
		w := writer.New(room)
		for range 20 {
			n, fault := w.Len(), w.Err()
			before, _ := w.Done()
			all := calls()
			c := all[draw.Intn(len(all))]
			c.call(w)
			now, e := w.Done()
			if w.Len() < n || w.Len() > max(room, 0) || e != w.Err() {
				t.Fatalf("%s: from %d to %d, room %d, %d, %d", c.name, n, w.Len(), room, e, w.Err())
			}
			if w.Err() != api.OK && w.Len() != n || fault != api.OK && w.Err() != fault {
				t.Fatalf("%s: from %d to %d, the fault %d, then %d", c.name, n, w.Len(), fault, w.Err())
			}
			if w.Err() == api.OK && (len(now) != w.Len() || !bytes.HasPrefix(now, before)) {
				t.Fatalf("%s: %v, then %v", c.name, before, now)
			}
		}
	}
}
