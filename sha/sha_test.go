package sha_test

import (
	"bytes"
	"crypto/sha256"
	"encoding/hex"
	"math"
	"math/big"
	"slices"
	"strings"
	"testing"

	"mirador/api"
	"mirador/sha"
)

// noBytes is the hash of no bytes.
const noBytes = "e3b0c44298fc1c149afbf4c8996fb92427ae41e4649b934ca495991b7852b855"

func text(x api.Id) string { return hex.EncodeToString(x[:]) }

// draw makes n bytes, other ones for each seed.
func draw(seed uint32, n int) []byte {
	out := make([]byte, n)
	x := seed*2654435761 + 1
	for i := range out {
		x ^= x << 13
		x ^= x >> 17
		x ^= x << 5
		out[i] = byte(x >> 11)
	}
	return out
}

// lengths are all up to three pieces, where 56 and 64 and their likes lie, and some longer ones.
func lengths() []int {
	var l []int
	for n := range 3*64 + 2 {
		l = append(l, n)
	}
	return append(l, 247, 248, 255, 256, 257, 1000, 4095, 4096, 4097, 8247, 8248, 70000)
}

// known are hashes that are told by others than this project.
func known() map[string]string {
	return map[string]string{
		"":    noBytes,
		"abc": "ba7816bf8f01cfea414140de5dae2223b00361a396177a9cb410ff61f20015ad",
		"abcdbcdecdefdefgefghfghighijhijkijkljklmklmnlmnomnopnopq":                                                         "248d6a61d20638b8e5c026930c3e6039a33ce45964ff2167f6ecedd419db06c1",
		"abcdefghbcdefghicdefghijdefghijkefghijklfghijklmghijklmnhijklmnoijklmnopjklmnopqklmnopqrlmnopqrsmnopqrstnopqrstu": "cf5b16a778af8380036ce59e7b0492370b249b11e8f07a51afac45037afee9d1",
		"The quick brown fox jumps over the lazy dog":                                                                      "d7a8fbb307d7809469ca9abcb0082e4f8d5651e46d3cdb762d02d0bf37c9e592",
		strings.Repeat("a", 55):      "9f4390f8d30c2dd92ec9f095b65e2b9ae9b0a925a5258e241c9f1e910f734318",
		strings.Repeat("a", 56):      "b35439a4ac6f0948b6d6f9e3c6af0f5f590ce20f1bde7090ef7970686ec6738a",
		strings.Repeat("a", 64):      "ffe054fe7ae0cb6dc65c3af9b61d5209f439851db43d0ba5997337df154668eb",
		strings.Repeat("a", 1000000): "cdc76e5c9914fb9281a1c7e284d73e67f1809a48a497200e046d39ccc7112cd0",
	}
}

func TestP2_1_Known(t *testing.T) {
	for in, want := range known() {
		h := sha.New()
		if n := h.Write([]byte(in)); n != len(in) {
			t.Errorf("Write of %d bytes: %d", len(in), n)
		}
		if got := text(h.Sum()); got != want {
			t.Errorf("%.20q, %d bytes: %s, not %s", in, len(in), got, want)
		}
	}
}

func TestP2_1_ToldNothing(t *testing.T) {
	h := sha.New()
	if h == nil || h.Len() != 0 || text(h.Sum()) != noBytes {
		t.Fatalf("of a new hash: %v, %s", h.Len(), text(h.Sum()))
	}
	for _, b := range [][]byte{nil, {}} {
		if n := h.Write(b); n != 0 || h.Len() != 0 || text(h.Sum()) != noBytes {
			t.Errorf("behind Write of no bytes: %d, %d, %s", n, h.Len(), text(h.Sum()))
		}
	}
	other := sha.New()
	other.Write([]byte("abc"))
	if h.Len() != 0 || text(h.Sum()) != noBytes || text(sha.New().Sum()) != noBytes {
		t.Error("new hashes are not apart")
	}
}

func TestP2_1_EachLength(t *testing.T) {
	for _, n := range lengths() {
		b := draw(uint32(n), n)
		h := sha.New()
		if m := h.Write(b); m != n || h.Len() != uint64(n) {
			t.Fatalf("Write of %d bytes: %d, then Len %d", n, m, h.Len())
		}
		if got, want := h.Sum(), sha256.Sum256(b); got != want {
			t.Fatalf("%d bytes: %s, not %x", n, text(got), want)
		}
	}
}

// TestP2_1_LongLength tells so many bytes that 8 times as many need more than four bytes in the padding.
func TestP2_1_LongLength(t *testing.T) {
	if testing.Short() {
		t.Skip("some seconds")
	}
	t.Parallel()
	const many = 1<<29 + 1<<20
	b := draw(9, 1<<20)
	h, want := sha.New(), sha256.New()
	for range many / len(b) {
		h.Write(b)
		want.Write(b)
	}
	if got := h.Sum(); string(got[:]) != string(want.Sum(nil)) || h.Len() != many {
		t.Errorf("%d bytes: %s, not %x", h.Len(), text(got), want.Sum(nil))
	}
}

// TestP2_1_SumInBetween asks behind each byte, twice, and holds it against a hash that is not asked.
func TestP2_1_SumInBetween(t *testing.T) {
	b := draw(7, 200)
	asked, unasked := sha.New(), sha.New()
	for i := range b {
		asked.Write(b[i : i+1])
		unasked.Write(b[i : i+1])
		want := sha256.Sum256(b[:i+1])
		if first, second := asked.Sum(), asked.Sum(); first != want || second != want {
			t.Fatalf("behind %d bytes: %s, then %s, not %x", i+1, text(first), text(second), want)
		}
		if asked.Len() != uint64(i+1) {
			t.Fatalf("behind %d bytes: Len %d", i+1, asked.Len())
		}
	}
	if *asked != *unasked || unasked.Sum() != asked.Sum() {
		t.Error("Sum is seen in what comes behind")
	}
}

func TestP2_1_Clone(t *testing.T) {
	for _, n := range []int{0, 1, 55, 56, 57, 63, 64, 65, 119, 120, 128, 200} {
		b, mine, theirs := draw(1, n), draw(2, 70), draw(3, 90)
		h := sha.New()
		h.Write(b)
		c := h.Clone()
		if c == nil || c == h || *c != *h || c.Sum() != h.Sum() || c.Len() != uint64(n) {
			t.Fatalf("behind %d bytes: the clone was not told the same", n)
		}
		c.Write(theirs)
		if h.Sum() != sha256.Sum256(b) || h.Len() != uint64(n) {
			t.Errorf("behind %d bytes: what its clone is told is seen", n)
		}
		h.Write(mine)
		d := c.Clone()
		d.Write(mine)
		for _, one := range []struct {
			h    *sha.Hash
			told []byte
		}{
			{h, slices.Concat(b, mine)},
			{c, slices.Concat(b, theirs)},
			{d, slices.Concat(b, theirs, mine)},
		} {
			if one.h.Sum() != sha256.Sum256(one.told) || one.h.Len() != uint64(len(one.told)) {
				t.Errorf("behind %d bytes, then apart: %s", n, text(one.h.Sum()))
			}
		}
	}
}

func TestP2_1_OfNil(t *testing.T) {
	var h *sha.Hash
	for _, b := range [][]byte{nil, {}, {1, 2, 3}, draw(1, 200)} {
		if n := h.Write(b); n != 0 {
			t.Errorf("Write of %d bytes: %d", len(b), n)
		}
	}
	if got := text(h.Sum()); got != noBytes {
		t.Errorf("Sum: %s", got)
	}
	if got := h.Len(); got != 0 {
		t.Errorf("Len: %d", got)
	}
	if got := h.Clone(); got != nil {
		t.Errorf("Clone: %v", got)
	}
}

// TestNoPanicOfZero holds the document's rule 1; what a hash that no call made answers is open.
func TestNoPanicOfZero(t *testing.T) {
	for _, n := range []int{0, 1, 64, 200} {
		var h sha.Hash
		h.Write(draw(1, n))
		h.Sum()
		h.Len()
		h.Clone().Write(draw(1, n))
	}
}

func TestP2_2_SumOfParts(t *testing.T) {
	for in, want := range known() {
		if got := text(sha.Sum([]byte(in))); got != want {
			t.Errorf("%.20q, %d bytes: %s, not %s", in, len(in), got, want)
		}
	}
	for _, parts := range [][][]byte{
		nil,
		{},
		{nil},
		{{}, nil, {}},
		{[]byte("abc")},
		{[]byte("a"), []byte("bc")},
		{nil, []byte("a"), {}, []byte("b"), nil, nil, []byte("c"), {}},
		{[]byte("c"), []byte("b"), []byte("a")},
		{draw(1, 55), draw(2, 1)},
		{draw(1, 63), draw(2, 1), draw(3, 1)},
		{draw(1, 64), nil, draw(2, 64)},
		{draw(1, 65), draw(2, 126), draw(3, 2)},
		{draw(1, 5000), draw(2, 3), draw(3, 5000)},
	} {
		if got, want := sha.Sum(parts...), sha256.Sum256(bytes.Join(parts, nil)); got != want {
			t.Errorf("of %d parts: %s, not %x", len(parts), text(got), want)
		}
	}
	if got := text(sha.Sum()); got != noBytes {
		t.Errorf("of no parts: %s", got)
	}
}

func TestP2_2_SumOfManyParts(t *testing.T) {
	b := draw(4, 1500)
	var parts [][]byte
	for i := range b {
		parts = append(parts, b[i:i+1], nil)
	}
	if got, want := sha.Sum(parts...), sha256.Sum256(b); got != want {
		t.Errorf("%s, not %x", text(got), want)
	}
}

// primes tells the first primes, from 2 on.
func primes(many int) []int64 {
	var l []int64
	for n := int64(2); len(l) < many; n++ {
		if big.NewInt(n).ProbablyPrime(20) {
			l = append(l, n)
		}
	}
	return l
}

// root tells the greatest whole number whose power is at most x, bit by bit from the top.
func root(x *big.Int, power int64) *big.Int {
	r := new(big.Int)
	for bit := x.BitLen(); bit >= 0; bit-- {
		r.SetBit(r, bit, 1)
		if new(big.Int).Exp(r, big.NewInt(power), nil).Cmp(x) > 0 {
			r.SetBit(r, bit, 0)
		}
	}
	return r
}

// behindPoint tells the first 32 bits behind the point of a prime's root, by the words of the chapter.
func behindPoint(prime, power int64) uint32 {
	x := new(big.Int).Lsh(big.NewInt(prime), uint(32*power))
	return uint32(new(big.Int).Mod(root(x, power), big.NewInt(1<<32)).Uint64())
}

func TestP2_2_Constants(t *testing.T) {
	for i, p := range primes(64) {
		if got, ok := sha.Constant(i); !ok || got != behindPoint(p, 3) {
			t.Errorf("Constant(%d) = %#x, %v, not %#x", i, got, ok, behindPoint(p, 3))
		}
	}
	if got, ok := sha.Constant(0); got != 0x428a2f98 || !ok {
		t.Errorf("Constant(0) = %#x, %v", got, ok)
	}
}

func TestP2_2_Starts(t *testing.T) {
	for i, p := range primes(8) {
		if got, ok := sha.Start(i); !ok || got != behindPoint(p, 2) {
			t.Errorf("Start(%d) = %#x, %v, not %#x", i, got, ok, behindPoint(p, 2))
		}
	}
	if got, ok := sha.Start(0); got != 0x6a09e667 || !ok {
		t.Errorf("Start(0) = %#x, %v", got, ok)
	}
}

func TestP2_2_NoSuchConstantOrStart(t *testing.T) {
	for _, i := range []int{math.MinInt, math.MinInt32, -65, -64, -9, -8, -2, -1, 64, 65, 128, 1000, math.MaxInt32, 1 << 32, math.MaxInt} {
		if got, ok := sha.Constant(i); got != 0 || ok {
			t.Errorf("Constant(%d) = %#x, %v", i, got, ok)
		}
		if got, ok := sha.Start(i); got != 0 || ok {
			t.Errorf("Start(%d) = %#x, %v", i, got, ok)
		}
	}
	for i := 8; i < 64; i++ {
		if got, ok := sha.Start(i); got != 0 || ok {
			t.Errorf("Start(%d) = %#x, %v", i, got, ok)
		}
	}
}

// TestP2_3_CutOnce cuts bytes in two at each place, with an empty piece between.
func TestP2_3_CutOnce(t *testing.T) {
	for _, n := range []int{1, 55, 56, 57, 63, 64, 65, 119, 120, 127, 128, 129, 200} {
		b := draw(uint32(n), n)
		whole := sha.New()
		whole.Write(b)
		for at := range n + 1 {
			h := sha.New()
			if got := h.Write(b[:at]) + h.Write(nil) + h.Write(b[at:]); got != n {
				t.Fatalf("%d bytes, cut at %d: %d told", n, at, got)
			}
			if h.Sum() != sha256.Sum256(b) || h.Len() != uint64(n) || *h != *whole {
				t.Fatalf("%d bytes, cut at %d: %s", n, at, text(h.Sum()))
			}
			if got := sha.Sum(b[:at], b[at:]); got != h.Sum() {
				t.Fatalf("%d bytes, cut at %d: Sum of parts: %s", n, at, text(got))
			}
		}
	}
}

func TestP2_3_ManyPieces(t *testing.T) {
	b := draw(11, 3000)
	want := sha256.Sum256(b)
	for size := 1; size <= 200; size++ {
		h := sha.New()
		for piece := range slices.Chunk(b, size) {
			if got := h.Write(piece); got != len(piece) {
				t.Fatalf("pieces of %d: Write of %d bytes: %d", size, len(piece), got)
			}
			h.Write([]byte{})
		}
		if got := h.Sum(); got != want || h.Len() != 3000 {
			t.Fatalf("pieces of %d: %s, not %x", size, text(got), want)
		}
	}
}

func TestP2_3_PiecesOfDrawnSizes(t *testing.T) {
	for seed := range uint32(200) {
		sizes := draw(seed, 40)
		var told []byte
		h := sha.New()
		for i, size := range sizes {
			piece := draw(seed+uint32(i), int(size))
			told = append(told, piece...)
			h.Write(piece)
			if i%5 == 0 {
				h.Sum()
			}
		}
		if got, want := h.Sum(), sha256.Sum256(told); got != want || h.Len() != uint64(len(told)) {
			t.Fatalf("seed %d: %s, not %x", seed, text(got), want)
		}
	}
}

// TestCompared holds the document's rule 9, and that the state is an array: a hash is held against another by ==, and copied by =.
func TestCompared(t *testing.T) {
	one, two := sha.New(), sha.New()
	one.Write(draw(1, 100))
	two.Write(draw(1, 99))
	if *one == *two {
		t.Error("told other bytes, and the same")
	}
	copied := *two
	two.Write(draw(1, 100)[99:])
	if *one != *two {
		t.Error("told the same bytes, and other ones")
	}
	if copied.Sum() != sha256.Sum256(draw(1, 99)) || copied.Len() != 99 {
		t.Error("a copy is not apart")
	}
}

// TestMemory holds the document's rule 4: what is handed in is not changed, nor its spare room, and what is kept is copied.
func TestMemory(t *testing.T) {
	whole := draw(5, 300)
	b := slices.Clone(whole)
	h := sha.New()
	h.Write(b[:100])
	parts := [][]byte{b[:10], b[20:30]}
	sha.Sum(parts[:1]...)
	if !bytes.Equal(b, whole) || !bytes.Equal(parts[1], whole[20:30]) {
		t.Fatal("changed")
	}
	clear(b)
	if h.Sum() != sha256.Sum256(whole[:100]) {
		t.Error("Write keeps what was handed in")
	}
	first := h.Sum()
	first[0] ^= 1
	if h.Sum() != sha256.Sum256(whole[:100]) {
		t.Error("Sum's answer is not new memory")
	}
}
