package reader_test

import (
	"bytes"
	"math"
	"math/big"
	"math/rand"
	"slices"
	"testing"

	"mirador/api"
	"mirador/reader"
)

// drawn are bytes that a draw of the test's own makes.
func drawn(r *rand.Rand, n int) []byte {
	b := make([]byte, n)
	r.Read(b)
	return b
}

// counted are the bytes 1, 2, 3 and so on.
func counted(n int) []byte {
	b := make([]byte, n)
	for i := range b {
		b[i] = byte(i + 1)
	}
	return b
}

// numberOf is the number that bytes are, the highest first, by the library's numbers of any size.
func numberOf(b []byte) uint64 { return new(big.Int).SetBytes(b).Uint64() }

// idsOf are the ids that bytes are.
func idsOf(b []byte) []api.Id {
	l := make([]api.Id, len(b)/32)
	for i := range b {
		l[i/32][i%32] = b[i]
	}
	return l
}

// stands fails, unless a reader is at this place, with so many bytes left and this fault, and Done says what follows from them.
func stands(t *testing.T, r *reader.Reader, at, left int, fault api.Errno) {
	t.Helper()
	done := fault
	if fault == api.OK && left > 0 {
		done = api.ErrLong
	}
	// Asked twice: asking changes nothing.
	for range 2 {
		if r.At() != at || r.Left() != left || r.Err() != fault || r.Done() != done {
			t.Fatalf("at %d, left %d, fault %d, done %d; not %d, %d, %d, %d", r.At(), r.Left(), r.Err(), r.Done(), at, left, fault, done)
		}
	}
}

// readsNothing fails, unless every reading of a reader is nothing; they are asked with arguments that would otherwise do, and with such as never would.
func readsNothing(t *testing.T, r *reader.Reader) {
	t.Helper()
	for _, n := range []int{1, 0, 2, 8, 9, -1, 1000, math.MaxInt, math.MinInt} {
		if x := r.Num(n); x != 0 {
			t.Fatalf("Num(%d) = %d", n, x)
		}
		if x := r.Bytes(n); len(x) != 0 {
			t.Fatalf("Bytes(%d) = %v", n, x)
		}
		if x := r.Ids(n); len(x) != 0 {
			t.Fatalf("Ids(%d) = %v", n, x)
		}
		for _, most := range []int{255, 0, -1, math.MaxInt, math.MinInt} {
			if x := r.Count(n, most); x != 0 {
				t.Fatalf("Count(%d, %d) = %d", n, most, x)
			}
		}
	}
	if id, hint := r.Id(), r.Hint(); id != (api.Id{}) || hint != (api.Hint{}) {
		t.Fatalf("Id, Hint = %x, %x", id, hint)
	}
}

// stuck fails, unless a reader stands there with this fault, and stays so through every call.
func stuck(t *testing.T, r *reader.Reader, at, left int, fault api.Errno) {
	t.Helper()
	stands(t, r, at, left, fault)
	readsNothing(t, r)
	stands(t, r, at, left, fault)
	for _, e := range []api.Errno{api.OK, api.ErrSum, api.ErrArg, api.ErrShort, api.ErrForm, -1} {
		r.Fail(e)
		stands(t, r, at, left, fault)
	}
	readsNothing(t, r)
	stands(t, r, at, left, fault)
}

// empty are bytes that are none, in each way.
func empty() [][]byte { return [][]byte{nil, {}, make([]byte, 0, 70), counted(90)[:0]} }

// TestP9_1_Example holds the chapter's example.
func TestP9_1_Example(t *testing.T) {
	r := reader.New([]byte{1, 2, 3})
	stands(t, r, 0, 3, api.OK)
	if x := r.Num(2); x != 258 {
		t.Fatalf("Num(2) = %d", x)
	}
	stands(t, r, 2, 1, api.OK)
	if x := r.Num(2); x != 0 {
		t.Fatalf("Num(2) = %d, of one byte", x)
	}
	stuck(t, r, 2, 1, api.ErrShort)
}

// TestP9_1_NumOfEachWidth reads numbers of every width, of bytes all unlike, the greatest, the least, and drawn ones, from each place.
func TestP9_1_NumOfEachWidth(t *testing.T) {
	draw := rand.New(rand.NewSource(91))
	for width := 1; width <= 8; width++ {
		for ahead := range 10 {
			for _, n := range [][]byte{counted(8)[:width], bytes.Repeat([]byte{255}, width), make([]byte, width), drawn(draw, width)} {
				b := slices.Concat(drawn(draw, ahead), n, drawn(draw, 3))
				r := reader.New(b)
				r.Bytes(ahead)
				if x := r.Num(width); x != numberOf(n) {
					t.Fatalf("Num(%d) of %v at %d = %d", width, b, ahead, x)
				}
				stands(t, r, ahead+width, 3, api.OK)
			}
		}
	}
	for width, want := range map[int]uint64{1: 255, 2: 65535, 4: 1<<32 - 1, 8: math.MaxUint64} {
		if x := reader.New(bytes.Repeat([]byte{255}, 8)).Num(width); x != want {
			t.Errorf("the greatest of %d bytes: %d", width, x)
		}
	}
	if x := reader.New([]byte{128, 0, 0, 0, 0, 0, 0, 1}).Num(8); x != 1<<63+1 {
		t.Errorf("a number of a high bit: %d", x)
	}
}

// TestP9_1_NumIsShort reads numbers of more bytes than are left: the place stays.
func TestP9_1_NumIsShort(t *testing.T) {
	for width := 1; width <= 8; width++ {
		for left := range 12 {
			for ahead := range 3 {
				r := reader.New(counted(ahead + left))
				r.Bytes(ahead)
				x := r.Num(width)
				if left >= width {
					stands(t, r, ahead+width, left-width, api.OK)
					continue
				}
				if x != 0 {
					t.Fatalf("Num(%d) of %d bytes = %d", width, left, x)
				}
				stuck(t, r, ahead, left, api.ErrShort)
			}
		}
	}
}

// TestP9_1_NumOfOtherWidths reads numbers of widths that may not be: ErrArg, also where too few bytes are left.
func TestP9_1_NumOfOtherWidths(t *testing.T) {
	for _, width := range []int{0, 9, 10, 16, 255, 256, 257, 1 << 32, 1<<32 + 1, math.MaxInt, -1, -8, -255, math.MinInt, math.MinInt + 1} {
		for _, n := range []int{0, 1, 5, 8, 9, 20, 300} {
			r := reader.New(counted(n))
			if x := r.Num(width); x != 0 {
				t.Fatalf("Num(%d) = %d", width, x)
			}
			stuck(t, r, 0, n, api.ErrArg)
		}
	}
}

// TestP9_1_Bytes reads none, some, as many as are left, and more, from several places.
func TestP9_1_Bytes(t *testing.T) {
	for _, all := range []int{0, 1, 2, 31, 32, 33, 300} {
		b := counted(all)
		for _, ahead := range []int{0, 1, all / 2, all} {
			ahead = min(ahead, all)
			left := all - ahead
			for _, n := range []int{0, 1, 2, left / 2, left - 1, left, left + 1, left + 2, all + 1, 1 << 31, math.MaxInt - 1, math.MaxInt} {
				r := reader.New(b)
				if x := r.Bytes(ahead); !bytes.Equal(x, b[:ahead]) {
					t.Fatalf("Bytes(%d) = %v", ahead, x)
				}
				x := r.Bytes(max(n, 0))
				if n = max(n, 0); n > left {
					if len(x) != 0 {
						t.Fatalf("Bytes(%d) of %d left = %v", n, left, x)
					}
					stuck(t, r, ahead, left, api.ErrShort)
					continue
				}
				if !bytes.Equal(x, b[ahead:ahead+n]) {
					t.Fatalf("Bytes(%d) at %d = %v", n, ahead, x)
				}
				stands(t, r, ahead+n, left-n, api.OK)
			}
		}
	}
}

// TestP9_1_BelowNone reads fewer than no bytes, and fewer than no ids: ErrArg, whatever is left.
func TestP9_1_BelowNone(t *testing.T) {
	for _, n := range []int{-1, -2, -31, -32, -33, -300, math.MinInt / 32, math.MinInt + 1, math.MinInt} {
		for _, all := range []int{0, 1, 32, 64, 300} {
			r := reader.New(counted(all))
			if x := r.Bytes(n); len(x) != 0 {
				t.Fatalf("Bytes(%d) = %v", n, x)
			}
			stuck(t, r, 0, all, api.ErrArg)
			r = reader.New(counted(all))
			r.Bytes(all)
			if x := r.Ids(n); len(x) != 0 {
				t.Fatalf("Ids(%d) = %v", n, x)
			}
			stuck(t, r, all, 0, api.ErrArg)
		}
	}
}

// readsOne reads one thing of a size, with so many bytes ahead of it, from so many bytes in all: it is the next ones, or nothing.
func readsOne(t *testing.T, all, ahead, size int, read func(*reader.Reader) []byte) {
	t.Helper()
	b, left := counted(all), all-ahead
	r := reader.New(b)
	r.Bytes(ahead)
	got := read(r)
	if left < size {
		if !bytes.Equal(got, make([]byte, size)) {
			t.Fatalf("of %d bytes: %x", left, got)
		}
		stuck(t, r, ahead, left, api.ErrShort)
		return
	}
	if !bytes.Equal(got, b[ahead:ahead+size]) {
		t.Fatalf("at %d: %x", ahead, got)
	}
	stands(t, r, ahead+size, left-size, api.OK)
}

// idBytes and hintBytes read an id, and a hint, and tell their bytes.
func idBytes(r *reader.Reader) []byte   { id := r.Id(); return id[:] }
func hintBytes(r *reader.Reader) []byte { hint := r.Hint(); return hint[:] }

// TestP9_1_IdAndHint reads an id, and a hint, of just as many bytes, of more, and of fewer.
func TestP9_1_IdAndHint(t *testing.T) {
	for all := range 70 {
		for _, ahead := range []int{0, min(1, all), min(7, all), all} {
			readsOne(t, all, ahead, 32, idBytes)
			readsOne(t, all, ahead, 16, hintBytes)
		}
	}
}

// TestP9_1_Ids reads none, some, as many as are left, one more, and numbers of ids whose bytes no number tells.
func TestP9_1_Ids(t *testing.T) {
	for _, all := range []int{0, 1, 31, 32, 33, 63, 64, 65, 200} {
		b := counted(all)
		whole := all / 32
		for n := range whole + 1 {
			r := reader.New(b)
			if l := r.Ids(n); !slices.Equal(l, idsOf(b[:32*n])) {
				t.Fatalf("Ids(%d) of %d bytes = %x", n, all, l)
			}
			stands(t, r, 32*n, all-32*n, api.OK)
		}
		for _, n := range []int{whole + 1, whole + 2, all + 1, 1 << 27, 1 << 31, 1 << 58, 1<<58 + 1, 1 << 59, 1<<59 + whole, 1 << 60, 1<<62 + whole, math.MaxInt/32 + 1, math.MaxInt - 31, math.MaxInt} {
			r := reader.New(b)
			if l := r.Ids(n); len(l) != 0 {
				t.Fatalf("Ids(%d) of %d bytes = %x", n, all, l)
			}
			stuck(t, r, 0, all, api.ErrShort)
		}
	}
}

// TestP9_1_NewMemory turns what was handed to New, with its spare room, and what was told: what is read stays as it was.
func TestP9_1_NewMemory(t *testing.T) {
	all := counted(250)
	before := bytes.Clone(all)
	b := all[:200]
	r := reader.New(b)
	first, ids, second := r.Bytes(20), r.Ids(2), r.Bytes(20)
	if !bytes.Equal(all, before) {
		t.Fatal("what was handed in was changed")
	}
	for _, x := range [][]byte{first, second} {
		x = x[:cap(x)]
		for i := range x {
			x[i] = 99
		}
	}
	clear(ids[:cap(ids)])
	if !bytes.Equal(all, before) {
		t.Fatal("what was told is what was handed in")
	}
	clear(all)
	if x := r.Num(4); x != numberOf(before[104:108]) {
		t.Errorf("Num(4) = %x", x)
	}
	if x := r.Bytes(92); !bytes.Equal(x, before[108:200]) {
		t.Errorf("Bytes(92) = %v", x)
	}
	stands(t, r, 200, 0, api.OK)

	// What is told later does not change what was told, nor does spare room reach into it.
	r = reader.New(before[:100])
	first = r.Bytes(10)
	_ = append(first, 77, 77, 77)
	ids = r.Ids(1)
	if second = r.Bytes(10); !bytes.Equal(first, before[:10]) || !slices.Equal(ids, idsOf(before[10:42])) || !bytes.Equal(second, before[42:52]) {
		t.Errorf("%v, %x, %v", first, ids, second)
	}
}

// TestP9_1_ReadersOfTheSameBytes reads by turns from two readers of the same bytes: neither knows of the other.
func TestP9_1_ReadersOfTheSameBytes(t *testing.T) {
	b := counted(100)
	one, other := reader.New(b), reader.New(b)
	one.Bytes(10)
	stands(t, other, 0, 100, api.OK)
	other.Num(9)
	stands(t, one, 10, 90, api.OK)
	stuck(t, other, 0, 100, api.ErrArg)
	if x := one.Num(2); x != numberOf(b[10:12]) {
		t.Errorf("Num(2) = %d", x)
	}
	stands(t, one, 12, 88, api.OK)
}

// TestP9_1_NoBytes reads of no bytes: none of them, and the end, are there at once.
func TestP9_1_NoBytes(t *testing.T) {
	for _, none := range empty() {
		r := reader.New(none)
		stands(t, r, 0, 0, api.OK)
		if b, l := r.Bytes(0), r.Ids(0); len(b) != 0 || len(l) != 0 {
			t.Fatalf("%v, %v", b, l)
		}
		stands(t, r, 0, 0, api.OK)
		r.Num(1)
		stuck(t, r, 0, 0, api.ErrShort)
	}
	// Spare room is not bytes.
	r := reader.New(counted(90)[:3])
	r.Bytes(3)
	r.Bytes(1)
	stuck(t, r, 3, 0, api.ErrShort)
}

// TestP9_2_CountAtTheEdge reads counts just as great as most, below it, and above: then the place is behind it.
func TestP9_2_CountAtTheEdge(t *testing.T) {
	draw := rand.New(rand.NewSource(92))
	for width := 1; width <= 8; width++ {
		for range 20 {
			b := drawn(draw, width+5)
			if width == 8 {
				b[2] &= 127 // greater ones are no int
			}
			n := int(numberOf(b[2 : 2+width]))
			for _, most := range []int{n, min(n, math.MaxInt-1) + 1, math.MaxInt} {
				r := reader.New(b)
				r.Bytes(2)
				if x := r.Count(width, most); x != n {
					t.Fatalf("Count(%d, %d) of %d = %d", width, most, n, x)
				}
				stands(t, r, 2+width, 3, api.OK)
			}
			for _, most := range []int{n - 1, n / 2, 0, -1, math.MinInt} {
				if most >= n {
					continue
				}
				r := reader.New(b)
				r.Bytes(2)
				if x := r.Count(width, most); x != 0 {
					t.Fatalf("Count(%d, %d) of %d = %d", width, most, n, x)
				}
				stuck(t, r, 2+width, 3, api.ErrForm)
			}
		}
	}
}

// TestP9_2_CountsOfNothingAndOfTheGreatest reads counts of 0, and such as no int tells.
func TestP9_2_CountsOfNothingAndOfTheGreatest(t *testing.T) {
	for width := 1; width <= 8; width++ {
		r := reader.New(make([]byte, width))
		if x := r.Count(width, 0); x != 0 {
			t.Fatalf("Count(%d, 0) = %d", width, x)
		}
		stands(t, r, width, 0, api.OK)
		for _, most := range []int{-1, -2, -256, math.MinInt} {
			r = reader.New(make([]byte, width+1))
			if x := r.Count(width, most); x != 0 {
				t.Fatalf("Count(%d, %d) = %d", width, most, x)
			}
			stuck(t, r, width, 1, api.ErrForm)
		}
	}
	for _, b := range [][]byte{{128, 0, 0, 0, 0, 0, 0, 0}, bytes.Repeat([]byte{255}, 8), {255, 255, 255, 255, 255, 255, 255, 254}, {128, 0, 0, 0, 0, 0, 0, 1}} {
		for _, most := range []int{math.MaxInt, math.MaxInt - 1, 255, 1, 0, -1, -2, math.MinInt, math.MinInt + 1} {
			r := reader.New(b)
			if x := r.Count(8, most); x != 0 {
				t.Fatalf("Count(8, %d) of %v = %d", most, b, x)
			}
			stuck(t, r, 8, 0, api.ErrForm)
		}
	}
	r := reader.New([]byte{127, 255, 255, 255, 255, 255, 255, 255})
	if x := r.Count(8, math.MaxInt); x != math.MaxInt {
		t.Fatalf("the greatest count: %d", x)
	}
	stands(t, r, 8, 0, api.OK)
}

// TestP9_2_CountIsNoNumber reads counts that Num could not read: its fault, ahead of ErrForm, and the place stays.
func TestP9_2_CountIsNoNumber(t *testing.T) {
	for _, most := range []int{math.MaxInt, 5, 0, -1, math.MinInt} {
		for _, width := range []int{0, 9, 1000, math.MaxInt, -1, math.MinInt} {
			for _, n := range []int{0, 1, 8, 9, 2000} {
				r := reader.New(counted(n))
				if x := r.Count(width, most); x != 0 {
					t.Fatalf("Count(%d, %d) = %d", width, most, x)
				}
				stuck(t, r, 0, n, api.ErrArg)
			}
		}
		for width := 1; width <= 8; width++ {
			r := reader.New(bytes.Repeat([]byte{255}, width-1))
			if x := r.Count(width, most); x != 0 {
				t.Fatalf("Count(%d, %d) = %d", width, most, x)
			}
			stuck(t, r, 0, width-1, api.ErrShort)
		}
	}
}

// TestP9_2_Fail notes faults: each number but OK is one, and the first one stays.
func TestP9_2_Fail(t *testing.T) {
	for e := api.Errno(-3); e < 25; e++ {
		r := reader.New(counted(50))
		r.Bytes(4)
		r.Fail(e)
		if e != api.OK {
			stuck(t, r, 4, 46, e)
			continue
		}
		stands(t, r, 4, 46, api.OK)
		if x := r.Num(1); x != 5 {
			t.Fatalf("behind Fail(OK) Num(1) = %d", x)
		}
		stands(t, r, 5, 45, api.OK)
	}
	for _, e := range []api.Errno{math.MaxInt, math.MinInt, 1000} {
		r := reader.New(nil)
		r.Fail(api.OK)
		r.Fail(e)
		stuck(t, r, 0, 0, e)
	}
}

// TestP9_2_FailBehindAnotherFault notes faults of readers that have one: it stays.
func TestP9_2_FailBehindAnotherFault(t *testing.T) {
	for e := api.Errno(-3); e < 25; e++ {
		short := reader.New(counted(5))
		short.Num(6)
		short.Fail(e)
		stuck(t, short, 0, 5, api.ErrShort)

		great := reader.New(counted(5))
		great.Count(1, 0)
		great.Fail(e)
		stuck(t, great, 1, 4, api.ErrForm)

		wrong := reader.New(counted(5))
		wrong.Bytes(-1)
		wrong.Fail(e)
		stuck(t, wrong, 0, 5, api.ErrArg)

		told := reader.New(counted(5))
		told.Fail(api.ErrSeal)
		told.Fail(e)
		stuck(t, told, 0, 5, api.ErrSeal)
	}
}

// TestP9_3_BehindEachCall holds the place, what is left, the fault and Done behind calls of each kind, one behind the other.
func TestP9_3_BehindEachCall(t *testing.T) {
	r := reader.New(counted(100))
	stands(t, r, 0, 100, api.OK)
	r.Num(3)
	stands(t, r, 3, 97, api.OK)
	r.Bytes(0)
	stands(t, r, 3, 97, api.OK)
	r.Bytes(7)
	stands(t, r, 10, 90, api.OK)
	r.Count(1, 11)
	stands(t, r, 11, 89, api.OK)
	r.Id()
	stands(t, r, 43, 57, api.OK)
	r.Hint()
	stands(t, r, 59, 41, api.OK)
	r.Ids(0)
	stands(t, r, 59, 41, api.OK)
	r.Fail(api.OK)
	stands(t, r, 59, 41, api.OK)
	r.Ids(1)
	stands(t, r, 91, 9, api.OK)
	r.Num(8)
	stands(t, r, 99, 1, api.OK)
	r.Bytes(1)
	stands(t, r, 100, 0, api.OK)
	r.Bytes(0)
	stands(t, r, 100, 0, api.OK)
	r.Hint()
	stuck(t, r, 100, 0, api.ErrShort)
}

// TestP9_3_FaultsAtTheEnd holds Done of readers with no byte left: their fault, or OK.
func TestP9_3_FaultsAtTheEnd(t *testing.T) {
	for name, call := range map[string]func(*reader.Reader){
		"Num":   func(r *reader.Reader) { r.Num(1) },
		"Bytes": func(r *reader.Reader) { r.Bytes(1) },
		"Count": func(r *reader.Reader) { r.Count(1, 255) },
		"Id":    func(r *reader.Reader) { r.Id() },
		"Hint":  func(r *reader.Reader) { r.Hint() },
		"Ids":   func(r *reader.Reader) { r.Ids(1) },
	} {
		t.Run(name, func(t *testing.T) {
			r := reader.New(counted(40))
			r.Bytes(40)
			stands(t, r, 40, 0, api.OK)
			call(r)
			stuck(t, r, 40, 0, api.ErrShort)
		})
	}
}

// TestP9_3_NilAndUnmade asks a nil reader, and such as no call made: nothing, 0, ErrNil, also behind Fail.
func TestP9_3_NilAndUnmade(t *testing.T) {
	for name, r := range map[string]*reader.Reader{"nil": nil, "unmade": {}, "new": new(reader.Reader)} {
		t.Run(name, func(t *testing.T) {
			for _, e := range []api.Errno{api.OK, api.ErrSum, api.ErrNil, -1} {
				readsNothing(t, r)
				r.Fail(e)
				for range 2 {
					if r.At() != 0 || r.Left() != 0 || r.Err() != api.ErrNil || r.Done() != api.ErrNil {
						t.Fatalf("behind Fail(%d): %d, %d, %d, %d", e, r.At(), r.Left(), r.Err(), r.Done())
					}
				}
			}
		})
	}
}

// piece reads a piece by a call that is drawn, which can be answered, and tells its bytes.
func piece(t *testing.T, draw *rand.Rand, r *reader.Reader) []byte {
	t.Helper()
	left := r.Left()
	switch kind := draw.Intn(6); {
	case kind == 0 && left >= 32:
		return idBytes(r)
	case kind == 1 && left >= 16:
		return hintBytes(r)
	case kind == 2:
		var b []byte
		for _, id := range r.Ids(draw.Intn(left/32 + 1)) {
			b = append(b, id[:]...)
		}
		return b
	case kind >= 3 && kind <= 4 && left > 0:
		width := 1 + draw.Intn(min(left, 8))
		n := uint64(0)
		if kind == 3 || width == 8 {
			n = r.Num(width)
		} else {
			n = uint64(r.Count(width, math.MaxInt))
		}
		b := make([]byte, width)
		return new(big.Int).SetUint64(n).FillBytes(b)
	}
	return r.Bytes(draw.Intn(min(left, 40) + 1))
}

// TestP9_4_InPieces reads bytes in drawn pieces, of every kind: joined they are the bytes, and behind them nothing comes.
func TestP9_4_InPieces(t *testing.T) {
	draw := rand.New(rand.NewSource(94))
	for range 400 {
		b := drawn(draw, draw.Intn(400))
		r := reader.New(b)
		var got []byte
		for r.Left() > 0 {
			got = append(got, piece(t, draw, r)...)
			if !bytes.Equal(got, b[:len(got)]) {
				t.Fatalf("of %v: %v", b, got)
			}
			stands(t, r, len(got), len(b)-len(got), api.OK)
		}
		if len(got) != len(b) {
			t.Fatalf("of %v: just %v", b, got)
		}
		r.Num(1 + draw.Intn(8))
		stuck(t, r, len(b), 0, api.ErrShort)
	}
}

// TestP9_4_NeverBeyondTheEnd makes drawn calls, of which many cannot be answered: the place never goes back, nor beyond the end, and stays from the fault on.
func TestP9_4_NeverBeyondTheEnd(t *testing.T) {
	draw := rand.New(rand.NewSource(95))
	for range 400 {
		b := drawn(draw, draw.Intn(120))
		r := reader.New(b)
		for range 20 {
			at, fault := r.At(), r.Err()
			switch draw.Intn(6) {
			case 0:
				r.Num(draw.Intn(12) - 1)
			case 1:
				r.Bytes(draw.Intn(60) - 1)
			case 2:
				r.Count(draw.Intn(12)-1, draw.Intn(1<<20)-1)
			case 3:
				r.Id()
			case 4:
				r.Hint()
			case 5:
				r.Ids(draw.Intn(4) - 1)
			}
			if r.At() < at || r.At() > len(b) || r.At()+r.Left() != len(b) {
				t.Fatalf("from %d to %d of %d, left %d", at, r.At(), len(b), r.Left())
			}
			if fault != api.OK && (r.At() != at || r.Err() != fault) {
				t.Fatalf("behind the fault %d at %d: %d, %d", fault, at, r.Err(), r.At())
			}
			if fault == api.OK && r.Err() != api.OK && r.Err() != api.ErrForm && r.At() != at {
				t.Fatalf("the fault %d moved the place from %d to %d", r.Err(), at, r.At())
			}
		}
	}
}
