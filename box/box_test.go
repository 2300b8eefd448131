package box_test

import (
	"iter"
	"testing"

	"mirador/box"
)

// allBytes are all there are.
func allBytes() []byte {
	l := make([]byte, 256)
	for i := range l {
		l[i] = byte(i)
	}
	return l
}

// product is the product by the words of layer 4's chapter: that of the polynomials, whole, and then the rest by x^8 + x^4 + x^3 + x + 1.
func product(a, b byte) byte {
	whole := 0
	for i := range 8 {
		if b>>i&1 == 1 {
			whole ^= int(a) << i
		}
	}
	for top := 14; top >= 8; top-- {
		if whole>>top&1 == 1 {
			whole ^= 0x11b << (top - 8)
		}
	}
	return byte(whole)
}

// inverse is the element whose product with a is 1, by a search through all; 0 of 0.
func inverse(a byte) byte {
	for _, b := range allBytes() {
		if product(a, b) == 1 {
			return b
		}
	}
	return 0
}

// substitutes are those of all bytes by the words of the chapter, bit by bit.
func substitutes() [256]byte {
	var l [256]byte
	for _, x := range allBytes() {
		b := inverse(x)
		for i := range 8 {
			sum := 99 >> i & 1
			for _, place := range []int{i, i + 4, i + 5, i + 6, i + 7} {
				sum += int(b >> (place % 8) & 1)
			}
			l[x] |= byte(sum%2) << i
		}
	}
	return l
}

// word lays four bytes, the highest first.
func word(a, b, c, d byte) uint32 {
	return uint32(a)<<24 | uint32(b)<<16 | uint32(c)<<8 | uint32(d)
}

// unmade are boxes that are nil, or that no call made.
func unmade() map[string]*box.Box {
	return map[string]*box.Box{"nil": nil, "zero value": {}, "new": new(box.Box)}
}

// TestP5_1_Examples holds the chapter's examples.
func TestP5_1_Examples(t *testing.T) {
	b := box.New()
	if b.Sub(0) != 99 || b.Sub(83) != 237 || b.Sub(0x53) != 0xed {
		t.Errorf("Sub(0) = %d, Sub(83) = %d", b.Sub(0), b.Sub(83))
	}
	if b.Back(99) != 0 || b.Back(237) != 83 {
		t.Errorf("Back(99) = %d, Back(237) = %d", b.Back(99), b.Back(237))
	}
}

// TestP5_1_KnownRows holds rows of the table that FIPS 197 tells.
func TestP5_1_KnownRows(t *testing.T) {
	b := box.New()
	for high, row := range map[byte][16]byte{
		0x0: {0x63, 0x7c, 0x77, 0x7b, 0xf2, 0x6b, 0x6f, 0xc5, 0x30, 0x01, 0x67, 0x2b, 0xfe, 0xd7, 0xab, 0x76},
		0x5: {0x53, 0xd1, 0x00, 0xed, 0x20, 0xfc, 0xb1, 0x5b, 0x6a, 0xcb, 0xbe, 0x39, 0x4a, 0x4c, 0x58, 0xcf},
		0xf: {0x8c, 0xa1, 0x89, 0x0d, 0xbf, 0xe6, 0x42, 0x68, 0x41, 0x99, 0x2d, 0x0f, 0xb0, 0x54, 0xbb, 0x16},
	} {
		for low, want := range row {
			x := high<<4 | byte(low)
			if got := b.Sub(x); got != want {
				t.Errorf("Sub(%#x) = %#x, not %#x", x, got, want)
			}
			if got := b.Back(want); got != x {
				t.Errorf("Back(%#x) = %#x, not %#x", want, got, x)
			}
		}
	}
}

func TestP5_1_SubOfAll(t *testing.T) {
	b := box.New()
	for x, want := range substitutes() {
		if got := b.Sub(byte(x)); got != want {
			t.Errorf("Sub(%#x) = %#x, not %#x", x, got, want)
		}
	}
}

// TestP5_1_BackOfAll searches each byte among the substitutes.
func TestP5_1_BackOfAll(t *testing.T) {
	b := box.New()
	l := substitutes()
	for _, y := range allBytes() {
		want := byte(0)
		for l[want] != y {
			want++
		}
		if got := b.Back(y); got != want {
			t.Errorf("Back(%#x) = %#x, not %#x", y, got, want)
		}
	}
}

func TestP5_1_ThereAndBack(t *testing.T) {
	b := box.New()
	for _, x := range allBytes() {
		if got := b.Back(b.Sub(x)); got != x {
			t.Errorf("Back(Sub(%#x)) = %#x", x, got)
		}
		if got := b.Sub(b.Back(x)); got != x {
			t.Errorf("Sub(Back(%#x)) = %#x", x, got)
		}
	}
}

func TestP5_1_WordByTable(t *testing.T) {
	b := box.New()
	for _, c := range []struct{ x, want uint32 }{
		{0, 0x63636363},
		{0xffffffff, 0x16161616},
		{0x00010253, 0x637c77ed},
		{0x53020100, 0xed777c63},
		{0x00000053, 0x636363ed},
		{0x53000000, 0xed636363},
		{0x80000000, 0xcd636363},
		{0x00000001, 0x6363637c},
		// FIPS 197, A.3: a word of the key's behind its turn, and one with the rest 4.
		{0x14dff409, 0xfa9ebf01},
		{0x2067fcde, 0xb785b01d},
	} {
		if got := b.Word(c.x); got != c.want {
			t.Errorf("Word(%#08x) = %#08x, not %#08x", c.x, got, c.want)
		}
	}
}

// TestP5_1_WordOfFourBytes lays each byte at each place, beside three others that differ from it and from each other.
func TestP5_1_WordOfFourBytes(t *testing.T) {
	b := box.New()
	l := substitutes()
	for _, x := range allBytes() {
		p, q, r := x+1, x+0x55, x+0xc3
		for _, four := range [][4]byte{{x, p, q, r}, {p, x, r, q}, {q, r, x, p}, {r, q, p, x}} {
			from := word(four[0], four[1], four[2], four[3])
			want := word(l[four[0]], l[four[1]], l[four[2]], l[four[3]])
			if got := b.Word(from); got != want {
				t.Fatalf("Word(%#08x) = %#08x, not %#08x", from, got, want)
			}
		}
	}
}

func TestP5_1_BoxesAlike(t *testing.T) {
	a, b := box.New(), box.New()
	if a == nil || b == nil || *a != *b {
		t.Fatal("two boxes differ")
	}
	*a = box.Box{}
	if b.Sub(0) != 99 || b.Back(99) != 0 || box.New().Sub(0) != 99 {
		t.Error("a box hangs on another one")
	}
}

func TestP5_2_AllToTheEnd(t *testing.T) {
	l := substitutes()
	all := box.New().All()
	for range 2 { // who ranged may range again
		n := 0
		for x, y := range all {
			if int(x) != n || y != l[n%256] {
				t.Fatalf("step %d: %#x, %#x", n, x, y)
			}
			n++
		}
		if n != 256 {
			t.Errorf("%d bytes", n)
		}
	}
}

// TestP5_2_AllLeft leaves behind each byte, the first one (at once) and the last one too.
func TestP5_2_AllLeft(t *testing.T) {
	l := substitutes()
	all := box.New().All()
	for end := range 256 {
		steps := 0
		all(func(x, y byte) bool {
			if int(x) != steps || y != l[x] {
				t.Errorf("step %d: %#x, %#x", steps, x, y)
			}
			steps++
			return steps <= end
		})
		if steps != end+1 {
			t.Fatalf("%d steps, and it was left behind %d", steps, end+1)
		}
	}
}

func TestP5_2_AllLeftByBreak(t *testing.T) {
	b := box.New()
	seen := []byte{}
	for x, y := range b.All() {
		if x == 3 {
			break
		}
		seen = append(seen, x, y)
	}
	if string(seen) != "\x00\x63\x01\x7c\x02\x77" {
		t.Errorf("%x", seen)
	}
	for x := range b.All() {
		if x != 0 {
			t.Errorf("the first one is %d", x)
		}
		break
	}
}

func TestP5_2_AllWithinAll(t *testing.T) {
	all := box.New().All()
	pairs, outer := 0, 0
	for x := range all {
		if int(x) != outer {
			t.Fatalf("step %d: %#x", outer, x)
		}
		outer++
		inner := 0
		for y := range all {
			if int(y) != inner {
				t.Fatalf("step %d, %d: %#x", outer, inner, y)
			}
			inner++
			pairs++
		}
	}
	if pairs != 256*256 {
		t.Errorf("%d pairs", pairs)
	}
}

func TestP5_2_UnmadeAll(t *testing.T) {
	for name, b := range unmade() {
		var all iter.Seq2[byte, byte] = b.All()
		if all == nil {
			t.Fatalf("%s: no function", name)
		}
		for x, y := range all {
			t.Fatalf("%s: %#x, %#x", name, x, y)
		}
	}
}

func TestP5_1_Unmade(t *testing.T) {
	for name, b := range unmade() {
		for _, x := range allBytes() {
			if b.Sub(x) != 0 || b.Back(x) != 0 {
				t.Errorf("%s: Sub(%#x) = %#x, Back(%#x) = %#x", name, x, b.Sub(x), x, b.Back(x))
			}
		}
		for _, x := range []uint32{0, 1, 5, 0x00010253, 0x63636363, 0x80000000, 0xffffffff} {
			if got := b.Word(x); got != 0 {
				t.Errorf("%s: Word(%#x) = %#x", name, x, got)
			}
		}
	}
}

func TestP5_3_EachOfJustOne(t *testing.T) {
	b := box.New()
	var times [256]int
	for _, x := range allBytes() {
		times[b.Sub(x)]++
	}
	for y, n := range times {
		if n != 1 {
			t.Errorf("%#x is the substitute of %d", y, n)
		}
	}
}

func TestP5_3_NoneIsItsOwn(t *testing.T) {
	b := box.New()
	for _, x := range allBytes() {
		if b.Sub(x) == x || b.Back(x) == x {
			t.Errorf("%#x is its own", x)
		}
	}
}
