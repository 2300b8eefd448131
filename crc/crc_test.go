package crc_test

import (
	"bytes"
	"hash/crc32"
	"math"
	"math/big"
	"math/rand"
	"testing"

	"mirador/crc"
)

// divisor is what an odd half is xor, by the chapter's words.
const divisor = 0x82F63B78

// byBit moves a sum by so many single bits 0.
func byBit(sum uint32, many int) uint32 {
	for range many {
		odd := sum%2 == 1
		sum /= 2
		if odd {
			sum ^= divisor
		}
	}
	return sum
}

// summed is the sum of bytes by the chapter's words, bit by bit.
func summed(b []byte) uint32 {
	sum := uint32(0xFFFFFFFF)
	for _, x := range b {
		sum = byBit(sum^uint32(x), 8)
	}
	return sum ^ 0xFFFFFFFF
}

// product is that of two sums as polynomials, of which the highest bit is the number 1 and each lower one a move more.
func product(a, b uint32) uint32 {
	out := uint32(0)
	for i := range 32 {
		if b<<i>>31 == 1 {
			out ^= byBit(a, i)
		}
	}
	return out
}

// byPower moves a sum by so many bytes, however many: by a product with the power of a move. It has no matrix.
func byPower(sum uint32, many uint64) uint32 {
	moves := new(big.Int).Mul(new(big.Int).SetUint64(many), big.NewInt(8))
	power := uint32(1 << 31)
	for i := moves.BitLen() - 1; i >= 0; i-- {
		power = product(power, power)
		if moves.Bit(i) == 1 {
			power = byBit(power, 1)
		}
	}
	return product(sum, power)
}

// drawn are bytes that a draw of the test's own makes.
func drawn(r *rand.Rand, n int) []byte {
	b := make([]byte, n)
	r.Read(b)
	return b
}

// cut cuts bytes into parts at drawn places; some have no bytes, and of these some are nil.
func cut(r *rand.Rand, b []byte) [][]byte {
	var parts [][]byte
	for len(b) > 0 {
		switch r.Intn(5) {
		case 0:
			parts = append(parts, nil)
		case 1:
			parts = append(parts, []byte{})
		default:
			n := 1 + r.Intn(min(len(b), 1+r.Intn(70)))
			parts = append(parts, b[:n])
			b = b[n:]
		}
	}
	return parts
}

// someSums are numbers that may be sums: few bits, many, each bit alone, and drawn ones.
func someSums(r *rand.Rand) []uint32 {
	l := []uint32{0, 1, 2, 77, math.MaxInt32, math.MaxUint32, math.MaxUint32 - 1, divisor, ^uint32(divisor), 0xE3069283}
	for i := range 32 {
		l = append(l, 1<<i, ^uint32(1<<i))
	}
	for range 20 {
		l = append(l, r.Uint32())
	}
	return l
}

// manyBytes are numbers of bytes: each power of 2, what is beside it, and drawn ones of every size.
func manyBytes(r *rand.Rand) []uint64 {
	l := []uint64{0, math.MaxInt64, math.MaxUint32, math.MaxUint64, math.MaxUint64 - 1}
	for i := range 64 {
		l = append(l, 1<<i, 1<<i-1, 1<<i+1, r.Uint64()>>i)
	}
	return l
}

// TestP11_1_Examples holds the chapter's examples, and known sums (RFC 3720, B.4).
func TestP11_1_Examples(t *testing.T) {
	rising, falling := make([]byte, 32), make([]byte, 32)
	for i := range rising {
		rising[i], falling[31-i] = byte(i), byte(i)
	}
	known := []struct {
		b   []byte
		sum uint32
	}{
		{[]byte("123456789"), 0xE3069283},
		{nil, 0},
		{[]byte{}, 0},
		{make([]byte, 32), 0x8A9136AA},
		{bytes.Repeat([]byte{255}, 32), 0x62A8AB43},
		{rising, 0x46DD794E},
		{falling, 0x113FDB5C},
	}
	for _, k := range known {
		if sum := crc.Of(k.b); sum != k.sum {
			t.Errorf("Of(%v) = %x, not %x", k.b, sum, k.sum)
		}
		if sum := summed(k.b); sum != k.sum {
			t.Errorf("the test's own sum of %v is %x, not %x", k.b, sum, k.sum)
		}
	}
}

// TestP11_1_OfNone asks for the sum of no part, and of parts without bytes.
func TestP11_1_OfNone(t *testing.T) {
	lists := [][][]byte{nil, {}, {nil}, {{}}, {nil, nil, nil}, {{}, nil, make([]byte, 0, 9), {}}}
	for i, parts := range lists {
		if sum := crc.Of(parts...); sum != 0 {
			t.Errorf("list %d: %x", i, sum)
		}
	}
	if sum := crc.Of(); sum != 0 {
		t.Errorf("no part: %x", sum)
	}
	none := []byte{}
	if sum := crc.Of(nil, []byte("12"), none, none, []byte("3456789"), nil); sum != 0xE3069283 {
		t.Errorf("parts without bytes between: %x", sum)
	}
}

// TestP11_1_OfEachByte holds the sum of each byte alone, and of each behind another one.
func TestP11_1_OfEachByte(t *testing.T) {
	for i := range 256 {
		b := []byte{byte(i)}
		if sum, want := crc.Of(b), summed(b); sum != want {
			t.Errorf("Of(%d) = %x, not %x", i, sum, want)
		}
		b = []byte{200, byte(i), byte(i)}
		if sum, want := crc.Of(b), summed(b); sum != want {
			t.Errorf("Of(%v) = %x, not %x", b, sum, want)
		}
	}
}

// TestP11_1_OfParts cuts bytes of many lengths into parts in many ways.
func TestP11_1_OfParts(t *testing.T) {
	r := rand.New(rand.NewSource(1))
	table := crc32.MakeTable(crc32.Castagnoli)
	for n := range 300 {
		b := drawn(r, n)
		want := summed(b)
		if library := crc32.Checksum(b, table); library != want {
			t.Fatalf("%d bytes: the library tells %x, the chapter's words %x", n, library, want)
		}
		if sum := crc.Of(b); sum != want {
			t.Errorf("%d bytes in one part: %x, not %x", n, sum, want)
		}
		for range 10 {
			parts := cut(r, b)
			if sum := crc.Of(parts...); sum != want {
				t.Errorf("%d bytes in %d parts: %x, not %x", n, len(parts), sum, want)
			}
		}
		for at := range b {
			if sum := crc.Of(b[:at], b[at:]); sum != want {
				t.Errorf("%d bytes, cut at %d: %x, not %x", n, at, sum, want)
			}
		}
	}
}

// TestP11_1_OfSingleBytes has each byte in a part of its own, and in the other order.
func TestP11_1_OfSingleBytes(t *testing.T) {
	b := []byte("123456789")
	var parts, turned [][]byte
	for i := range b {
		parts = append(parts, b[i:i+1])
		turned = append(turned, b[8-i:9-i])
	}
	if sum := crc.Of(parts...); sum != 0xE3069283 {
		t.Errorf("in order: %x", sum)
	}
	if sum, want := crc.Of(turned...), summed([]byte("987654321")); sum != want {
		t.Errorf("the last part ahead: %x, not %x", sum, want)
	}
}

// TestP11_1_OfLong has more bytes than any file of a disk, in one part and in many.
func TestP11_1_OfLong(t *testing.T) {
	r := rand.New(rand.NewSource(2))
	b := drawn(r, 1<<20+3)
	want := summed(b)
	if sum := crc.Of(b); sum != want {
		t.Errorf("one part: %x, not %x", sum, want)
	}
	parts := cut(r, b)
	if sum := crc.Of(parts...); sum != want {
		t.Errorf("%d parts: %x, not %x", len(parts), sum, want)
	}
}

// TestP11_1_MoreOfSums goes on with the sum of bytes, with none, some and many behind them.
func TestP11_1_MoreOfSums(t *testing.T) {
	r := rand.New(rand.NewSource(3))
	for _, ahead := range []int{0, 1, 2, 9, 64, 1000} {
		for _, behind := range []int{0, 1, 2, 3, 7, 8, 9, 64, 5000} {
			a, b := drawn(r, ahead), drawn(r, behind)
			want := summed(append(bytes.Clone(a), b...))
			if sum := crc.More(crc.Of(a), b); sum != want {
				t.Errorf("%d bytes, %d behind them: %x, not %x", ahead, behind, sum, want)
			}
		}
	}
}

// TestP11_1_MoreOfAny goes on with any number: it is xor FFFFFFFF, moved on, and xor FFFFFFFF.
func TestP11_1_MoreOfAny(t *testing.T) {
	r := rand.New(rand.NewSource(4))
	for _, sum := range someSums(r) {
		if more := crc.More(sum, nil); more != sum {
			t.Errorf("More(%x, nil) = %x", sum, more)
		}
		if more := crc.More(sum, []byte{}); more != sum {
			t.Errorf("More(%x, none) = %x", sum, more)
		}
		for _, n := range []int{1, 2, 5, 33, 400} {
			b := drawn(r, n)
			want := sum ^ 0xFFFFFFFF
			for _, x := range b {
				want = byBit(want^uint32(x), 8)
			}
			want ^= 0xFFFFFFFF
			if more := crc.More(sum, b); more != want {
				t.Errorf("More(%x, %d bytes) = %x, not %x", sum, n, more, want)
			}
			if more := crc.More(crc.More(sum, b[:n/2]), b[n/2:]); more != want {
				t.Errorf("More(%x, %d bytes in two) = %x, not %x", sum, n, more, want)
			}
		}
	}
}

// TestP11_1_Unchanged holds that bytes that were handed in are as they were, their spare room too, and that nothing is kept of them.
func TestP11_1_Unchanged(t *testing.T) {
	room := []byte("123456789 and what stands behind")
	was := bytes.Clone(room)
	parts := [][]byte{room[:4], nil, room[4:9]}
	first := crc.Of(parts...)
	more := crc.More(first, room[:9])
	if !bytes.Equal(room, was) || len(parts) != 3 || len(parts[0]) != 4 || parts[1] != nil || len(parts[2]) != 5 {
		t.Errorf("changed: %q, %v", room, parts)
	}
	clear(room)
	if first != 0xE3069283 || crc.Of([]byte("123456789")) != first || crc.More(first, was[:9]) != more {
		t.Error("bytes that were turned behind a call change a later one")
	}
}

// TestP11_2_MovedByNone is the sum itself.
func TestP11_2_MovedByNone(t *testing.T) {
	for _, sum := range someSums(rand.New(rand.NewSource(5))) {
		if moved := crc.Moved(sum, 0); moved != sum {
			t.Errorf("Moved(%x, 0) = %x", sum, moved)
		}
	}
}

// TestP11_2_MovedByFew holds moves by few bytes against those of single bits.
func TestP11_2_MovedByFew(t *testing.T) {
	for _, sum := range someSums(rand.New(rand.NewSource(6))) {
		want := sum
		for many := range uint64(300) {
			if moved := crc.Moved(sum, many); moved != want {
				t.Fatalf("Moved(%x, %d) = %x, not %x", sum, many, moved, want)
			}
			want = byBit(want, 8)
		}
	}
	if moved := crc.Moved(1, 1); moved != 0xF26B8303 {
		t.Errorf("Moved(1, 1) = %x", moved)
	}
	if moved, want := crc.Moved(0xE3069283, 1_000_000), byBit(0xE3069283, 8_000_000); moved != want {
		t.Errorf("by a million bytes: %x, not %x", moved, want)
	}
}

// TestP11_2_MovedByMany holds moves by any number of bytes, up to the greatest, against products of polynomials.
func TestP11_2_MovedByMany(t *testing.T) {
	r := rand.New(rand.NewSource(7))
	for many := range uint64(20) {
		if few, want := byPower(0xE3069283, many), byBit(0xE3069283, int(8*many)); few != want {
			t.Fatalf("the test's own move by %d bytes is %x, not %x", many, few, want)
		}
	}
	for _, many := range manyBytes(r) {
		for _, sum := range []uint32{0, 1, 1 << 31, math.MaxUint32, r.Uint32(), r.Uint32()} {
			if moved, want := crc.Moved(sum, many), byPower(sum, many); moved != want {
				t.Errorf("Moved(%x, %d) = %x, not %x", sum, many, moved, want)
			}
		}
	}
}

// TestP11_2_MovedOfAll holds the move of 0, which is 0, and of sums with every bit, by the greatest number too.
func TestP11_2_MovedOfAll(t *testing.T) {
	for _, many := range manyBytes(rand.New(rand.NewSource(8))) {
		if moved := crc.Moved(0, many); moved != 0 {
			t.Errorf("Moved(0, %d) = %x", many, moved)
		}
	}
	for _, sum := range someSums(rand.New(rand.NewSource(9))) {
		if moved, want := crc.Moved(sum, math.MaxUint64), byPower(sum, math.MaxUint64); moved != want {
			t.Errorf("Moved(%x, the greatest) = %x, not %x", sum, moved, want)
		}
	}
}

// TestP11_2_Join is Moved and xor, of any two numbers.
func TestP11_2_Join(t *testing.T) {
	r := rand.New(rand.NewSource(10))
	for _, many := range manyBytes(r) {
		for _, a := range []uint32{0, 1, math.MaxUint32, r.Uint32()} {
			for _, b := range []uint32{0, 1, math.MaxUint32, r.Uint32()} {
				if sum, want := crc.Join(a, b, many), crc.Moved(a, many)^b; sum != want {
					t.Errorf("Join(%x, %x, %d) = %x, not %x", a, b, many, sum, want)
				}
			}
		}
	}
	for _, a := range someSums(r) {
		b := r.Uint32()
		if crc.Join(a, b, 0) != a^b || crc.Join(0, a, 1<<63) != a || crc.Join(a, 0, 3) != byBit(a, 24) || crc.Join(a, b, 3) != byBit(a, 24)^b {
			t.Errorf("Join of %x and %x", a, b)
		}
	}
}

// TestP11_2_JoinOfParts holds Join of sums against the sum of both parts, one behind the other.
func TestP11_2_JoinOfParts(t *testing.T) {
	r := rand.New(rand.NewSource(11))
	for _, ahead := range []int{0, 1, 2, 5, 64, 999} {
		for _, behind := range []int{0, 1, 2, 3, 4, 63, 64, 65, 3000} {
			a, b := drawn(r, ahead), drawn(r, behind)
			want := summed(append(bytes.Clone(a), b...))
			if sum := crc.Join(crc.Of(a), crc.Of(b), uint64(behind)); sum != want {
				t.Errorf("%d bytes and %d: %x, not %x", ahead, behind, sum, want)
			}
		}
	}
	if sum := crc.Join(crc.Of(nil), crc.Of(nil), 0); sum != 0 {
		t.Errorf("no bytes and none: %x", sum)
	}
	if sum := crc.Join(crc.Of([]byte("12345")), crc.Of([]byte("6789")), 4); sum != 0xE3069283 {
		t.Errorf("12345 and 6789: %x", sum)
	}
}

// TestP11_3_JoinAtEachPlace cuts bytes at each place, and joins what is ahead and behind; three parts join either way.
func TestP11_3_JoinAtEachPlace(t *testing.T) {
	r := rand.New(rand.NewSource(12))
	b := drawn(r, 150)
	want := crc.Of(b)
	for at := range len(b) + 1 {
		if sum := crc.Join(crc.Of(b[:at]), crc.Of(b[at:]), uint64(len(b)-at)); sum != want {
			t.Errorf("cut at %d: %x, not %x", at, sum, want)
		}
	}
	for range 100 {
		a, c := r.Intn(51), 50+r.Intn(101)
		first, second, third := crc.Of(b[:a]), crc.Of(b[a:c]), crc.Of(b[c:])
		left := crc.Join(crc.Join(first, second, uint64(c-a)), third, uint64(len(b)-c))
		right := crc.Join(first, crc.Join(second, third, uint64(len(b)-c)), uint64(len(b)-a))
		if left != want || right != want {
			t.Errorf("cut at %d and %d: %x and %x, not %x", a, c, left, right, want)
		}
	}
}

// TestP11_3_MovedOverXor holds Moved of a xor b against Moved of both.
func TestP11_3_MovedOverXor(t *testing.T) {
	r := rand.New(rand.NewSource(13))
	for _, many := range manyBytes(r) {
		for range 4 {
			a, b := r.Uint32(), r.Uint32()
			if both, want := crc.Moved(a^b, many), crc.Moved(a, many)^crc.Moved(b, many); both != want {
				t.Errorf("Moved(%x xor %x, %d) = %x, not %x", a, b, many, both, want)
			}
		}
	}
}

// TestP11_3_MovedTogether moves by bytes together, and one behind the other.
func TestP11_3_MovedTogether(t *testing.T) {
	r := rand.New(rand.NewSource(14))
	for _, first := range manyBytes(r) {
		for _, second := range []uint64{0, 1, 2, 255, 1 << 31, math.MaxUint64, r.Uint64()} {
			// Cut so that both together are a number of the type.
			second = min(second, math.MaxUint64-first)
			sum := r.Uint32()
			if moved, want := crc.Moved(crc.Moved(sum, first), second), crc.Moved(sum, first+second); moved != want {
				t.Errorf("Moved(%x, %d, then %d) = %x, not %x", sum, first, second, moved, want)
			}
		}
	}
	sum := uint32(5)
	for range 1000 {
		sum = crc.Moved(sum, 1)
	}
	if moved := crc.Moved(5, 1000); moved != sum {
		t.Errorf("Moved(5, 1000) = %x, byte by byte %x", moved, sum)
	}
}

// turned are bytes of which those bits are turned whose bit of a pattern is set: its lowest bit at the place of a bit in the bytes, the lowest of a byte ahead of its others.
func turned(b []byte, place int, pattern uint32) []byte {
	out := bytes.Clone(b)
	for i := range 32 {
		if pattern>>i&1 == 1 {
			at := place + i
			out[at/8] ^= 1 << (at % 8)
		}
	}
	return out
}

// TestP11_3_OneBit turns one bit, at each place: each sum is another one.
func TestP11_3_OneBit(t *testing.T) {
	r := rand.New(rand.NewSource(15))
	for _, b := range [][]byte{{0}, {255}, make([]byte, 90), []byte("123456789"), drawn(r, 600)} {
		sums := map[uint32]int{crc.Of(b): -1}
		for place := range 8 * len(b) {
			sum := crc.Of(turned(b, place, 1))
			if other, ok := sums[sum]; ok {
				t.Fatalf("%d bytes: turned at %d and at %d (-1: nowhere) they have one sum", len(b), place, other)
			}
			sums[sum] = place
		}
	}
}

// TestP11_3_Row turns up to 32 bits in a row, at each place: all of them, and any of those between the first and the last.
func TestP11_3_Row(t *testing.T) {
	r := rand.New(rand.NewSource(16))
	for _, b := range [][]byte{make([]byte, 4), make([]byte, 12), drawn(r, 60)} {
		was := crc.Of(b)
		for long := 1; long <= 32; long++ {
			ends := uint32(1) | 1<<(long-1)
			all := uint32(1<<long - 1)
			for place := range 8*len(b) - long + 1 {
				for _, pattern := range []uint32{all, ends, ends | r.Uint32()&all, ends | r.Uint32()&all} {
					if crc.Of(turned(b, place, pattern)) == was {
						t.Fatalf("%d bytes, at %d turned by %x: the sum is the same", len(b), place, pattern)
					}
				}
			}
		}
	}
}
