package word_test

import (
	"math"
	"slices"
	"testing"

	"mirador/word"
)

// samples are words whose every turn is told apart, and the edges.
var samples = []uint32{0, 1, 2, 0x80000000, 0x7fffffff, 0xffffffff, 0x80000001, 0x12345678, 0x9abcdef0, 0xdeadbeef, 0x00ff00ff}

// numbers are turns: each rest by 32, on both sides of 0, and the edges of an int.
func numbers() []int {
	l := []int{math.MaxInt, math.MaxInt - 1, math.MinInt, math.MinInt + 1, math.MinInt + 33, math.MaxInt32, math.MinInt32, 1 << 40, -(1 << 40) - 5}
	for by := -130; by <= 130; by++ {
		l = append(l, by)
	}
	return l
}

// rest is by's rest by 32 that is not below 0, by the words of the chapter.
func rest(by int) int {
	r := by % 32
	if r < 0 {
		r += 32
	}
	return r
}

// leftOne turns by one place, bit by bit.
func leftOne(x uint32) uint32 {
	y := uint32(0)
	for i := range 32 {
		if x>>i&1 == 1 {
			y |= 1 << ((i + 1) % 32)
		}
	}
	return y
}

func rightOne(x uint32) uint32 {
	y := uint32(0)
	for i := range 32 {
		if x>>i&1 == 1 {
			y |= 1 << ((i + 31) % 32)
		}
	}
	return y
}

func times(f func(uint32) uint32, x uint32, n int) uint32 {
	for range n {
		x = f(x)
	}
	return x
}

func TestP1_1_TurnsByTable(t *testing.T) {
	for _, c := range []struct {
		x           uint32
		by          int
		left, right uint32
	}{
		{1, 33, 2, 0x80000000},
		{1, 0, 1, 1},
		{1, 31, 0x80000000, 2},
		{1, 32, 1, 1},
		{1, 63, 0x80000000, 2},
		{1, 64, 1, 1},
		{1, -1, 0x80000000, 2},
		{1, -31, 2, 0x80000000},
		{1, -32, 1, 1},
		{1, -33, 0x80000000, 2},
		{0x80000001, 1, 3, 0xc0000000},
		{0x12345678, 4, 0x23456781, 0x81234567},
		{0x12345678, -4, 0x81234567, 0x23456781},
		{0x12345678, 16, 0x56781234, 0x56781234},
		{0x12345678, math.MinInt, 0x12345678, 0x12345678},
		{0x12345678, math.MinInt + 4, 0x23456781, 0x81234567},
		{0x12345678, math.MaxInt, 0x091a2b3c, 0x2468acf0},
	} {
		if got := word.Left(c.x, c.by); got != c.left {
			t.Errorf("Left(%#x, %d) = %#x, not %#x", c.x, c.by, got, c.left)
		}
		if got := word.Right(c.x, c.by); got != c.right {
			t.Errorf("Right(%#x, %d) = %#x, not %#x", c.x, c.by, got, c.right)
		}
	}
}

func TestP1_1_TurnsPlaceByPlace(t *testing.T) {
	for _, x := range samples {
		for _, by := range numbers() {
			if got, want := word.Left(x, by), times(leftOne, x, rest(by)); got != want {
				t.Fatalf("Left(%#x, %d) = %#x, not %#x", x, by, got, want)
			}
			if got, want := word.Right(x, by), times(rightOne, x, rest(by)); got != want {
				t.Fatalf("Right(%#x, %d) = %#x, not %#x", x, by, got, want)
			}
		}
	}
}

func TestP1_2_Bytes(t *testing.T) {
	for _, c := range []struct {
		words []uint32
		bytes []byte
	}{
		{nil, nil},
		{[]uint32{}, nil},
		{[]uint32{258}, []byte{0, 0, 1, 2}},
		{[]uint32{0}, []byte{0, 0, 0, 0}},
		{[]uint32{math.MaxUint32}, []byte{255, 255, 255, 255}},
		{[]uint32{0x01020304, 0xfffefdfc}, []byte{1, 2, 3, 4, 255, 254, 253, 252}},
		{[]uint32{0x80000000, 0, 1}, []byte{128, 0, 0, 0, 0, 0, 0, 0, 0, 0, 0, 1}},
	} {
		if got := word.Bytes(c.words...); !slices.Equal(got, c.bytes) {
			t.Errorf("Bytes(%#x) = %v, not %v", c.words, got, c.bytes)
		}
		if got, ok := word.Words(c.bytes); !ok || !slices.Equal(got, c.words) {
			t.Errorf("Words(%v) = %#x, %v, not %#x, true", c.bytes, got, ok, c.words)
		}
	}
	if got := word.Bytes(); len(got) != 0 {
		t.Errorf("Bytes of no words: %v", got)
	}
}

func TestP1_2_WordsOfNoMultipleOfFour(t *testing.T) {
	for n := range 70 {
		b := make([]byte, n)
		for i := range b {
			b[i] = byte(i + 1)
		}
		got, ok := word.Words(b)
		switch {
		case ok != (n%4 == 0):
			t.Errorf("Words of %d bytes: %v", n, ok)
		case ok && len(got) != n/4:
			t.Errorf("Words of %d bytes: %d words", n, len(got))
		case !ok && len(got) != 0:
			t.Errorf("Words of %d bytes: false, but %#x", n, got)
		}
	}
	for _, b := range [][]byte{nil, {}} {
		if got, ok := word.Words(b); !ok || len(got) != 0 {
			t.Errorf("Words of no bytes: %#x, %v", got, ok)
		}
	}
}

func TestP1_2_Add(t *testing.T) {
	for _, c := range []struct {
		words []uint32
		sum   uint32
	}{
		{nil, 0},
		{[]uint32{}, 0},
		{[]uint32{7}, 7},
		{[]uint32{math.MaxUint32}, math.MaxUint32},
		{[]uint32{1, 2, 3, 4}, 10},
		{[]uint32{math.MaxUint32, 1}, 0},
		{[]uint32{1 << 31, 1 << 31, 5}, 5},
		{[]uint32{math.MaxUint32, math.MaxUint32, math.MaxUint32}, math.MaxUint32 - 2},
	} {
		if got := word.Add(c.words...); got != c.sum {
			t.Errorf("Add(%#x) = %#x, not %#x", c.words, got, c.sum)
		}
	}
	if got := word.Add(); got != 0 {
		t.Errorf("Add of none: %#x", got)
	}
}

// TestP1_3_EachBit lays each of the eight ways that three bits can stand on each place, with the places beside it as they may be.
func TestP1_3_EachBit(t *testing.T) {
	bit := func(n, i int) uint32 { return uint32(n >> i & 1) }
	for place := range 32 {
		for n := range 8 {
			x, y, z := bit(n, 2), bit(n, 1), bit(n, 0)
			choose := z
			if x == 1 {
				choose = y
			}
			majority := uint32(0)
			if x+y+z >= 2 {
				majority = 1
			}
			for _, around := range []uint32{0, math.MaxUint32} {
				rest := around &^ (1 << place)
				if got := word.Choose(x<<place|rest, y<<place|rest, z<<place|rest); got != choose<<place|rest {
					t.Fatalf("Choose of %03b at %d: %#x", n, place, got)
				}
				if got := word.Majority(x<<place|rest, y<<place|rest, z<<place|rest); got != majority<<place|rest {
					t.Fatalf("Majority of %03b at %d: %#x", n, place, got)
				}
			}
		}
	}
}

func TestP1_3_Words(t *testing.T) {
	if got := word.Choose(0xff00ff00, 0x12345678, 0x9abcdef0); got != 0x12bc56f0 {
		t.Errorf("Choose: %#x", got)
	}
	if got := word.Majority(0xf0f0f0f0, 0xff00ff00, 0x0ff00ff0); got != 0xfff0fff0 {
		t.Errorf("Majority: %#x", got)
	}
	for _, y := range samples {
		for _, z := range samples {
			if word.Choose(math.MaxUint32, y, z) != y || word.Choose(0, y, z) != z {
				t.Errorf("Choose of all bits, or none: %#x, %#x", y, z)
			}
			if word.Majority(y, y, z) != y || word.Majority(y, z, y) != y || word.Majority(z, y, y) != y {
				t.Errorf("Majority of two alike: %#x, %#x", y, z)
			}
		}
	}
}

func TestP1_4_TurnsUndone(t *testing.T) {
	for _, x := range samples {
		for _, by := range numbers() {
			if got := word.Right(word.Left(x, by), by); got != x {
				t.Fatalf("Right of Left of %#x by %d: %#x", x, by, got)
			}
			if got := word.Left(word.Right(x, by), by); got != x {
				t.Fatalf("Left of Right of %#x by %d: %#x", x, by, got)
			}
		}
	}
}

func TestP1_4_BytesUndone(t *testing.T) {
	for n := range len(samples) + 1 {
		l, ok := word.Words(word.Bytes(samples[:n]...))
		if !ok || !slices.Equal(l, samples[:n]) {
			t.Errorf("Words of Bytes of %#x: %#x, %v", samples[:n], l, ok)
		}
	}
	var b []byte
	for i := range 64 {
		l, ok := word.Words(b)
		if back := word.Bytes(l...); !ok || !slices.Equal(back, b) {
			t.Errorf("Bytes of Words of %v: %v, %v", b, back, ok)
		}
		b = append(b, byte(7*i), byte(255-i), byte(i), byte(200+i))
	}
}

// TestMemory holds the document's rule 4: what is handed in is not changed, nor its spare room, and answers are new memory.
func TestMemory(t *testing.T) {
	words := []uint32{1, 2, 3, 4}
	b := []byte{0, 0, 0, 1, 0, 0, 0, 2, 9, 9, 9, 9}
	word.Bytes(words[:2]...)
	word.Add(words[:2]...)
	first, _ := word.Words(b[:8])
	second, _ := word.Words(b[:8])
	if !slices.Equal(words, []uint32{1, 2, 3, 4}) || !slices.Equal(b, []byte{0, 0, 0, 1, 0, 0, 0, 2, 9, 9, 9, 9}) {
		t.Fatalf("changed: %v, %v", words, b)
	}
	first[0] = 77
	if second[0] != 1 || b[3] != 1 {
		t.Errorf("Words' answers share memory: %v, %v", second, b)
	}
	one, two := word.Bytes(words...), word.Bytes(words...)
	one[3] = 77
	if two[3] != 1 || words[0] != 1 {
		t.Errorf("Bytes' answers share memory: %v, %v", two, words)
	}
}
