package cipher_test

import (
	"bytes"
	"crypto/aes"
	"encoding/hex"
	"math/rand"
	"testing"

	"mirador/api"
	"mirador/cipher"
)

// product is the product by the words of layer 4's chapter: that of the polynomials, whole, and then the rest by x^8 + x^4 + x^3 + x + 1.
func product(a, b byte) byte {
	whole := 0
	for i := range 8 {
		if b>>i&1 == 1 {
			whole ^= int(a) << i
		}
	}
	for top := 14; top >= 8; top-- {
		if whole>>top&1 == 1 {
			whole ^= 0x11b << (top - 8)
		}
	}
	return byte(whole)
}

// substitutes are those of all bytes by the words of layer 5's chapter, with inverses that are searched.
func substitutes() [256]byte {
	var l [256]byte
	for x := range 256 {
		b := byte(0)
		for y := range 256 {
			if product(byte(x), byte(y)) == 1 {
				b = byte(y)
			}
		}
		for i := range 8 {
			bit := 99 >> i & 1
			for _, place := range []int{i, i + 4, i + 5, i + 6, i + 7} {
				bit += int(b >> (place % 8) & 1)
			}
			l[x] |= byte(bit%2) << i
		}
	}
	return l
}

// keyBytes are the 60 words of a key by the words of the chapter, as 240 bytes.
func keyBytes(key []byte, sub [256]byte) []byte {
	words := [][4]byte{}
	for i := 0; i < 32; i += 4 {
		words = append(words, [4]byte(key[i:i+4]))
	}
	power := byte(1)
	for t := 8; t < 60; t++ {
		w := words[t-1]
		if t%8 == 0 {
			w = [4]byte{sub[w[1]] ^ power, sub[w[2]], sub[w[3]], sub[w[0]]}
			power = product(power, 2)
		} else if t%8 == 4 {
			w = [4]byte{sub[w[0]], sub[w[1]], sub[w[2]], sub[w[3]]}
		}
		for i := range w {
			w[i] ^= words[t-8][i]
		}
		words = append(words, w)
	}
	all := []byte{}
	for _, w := range words {
		all = append(all, w[:]...)
	}
	return all
}

// mixed is a column mixed by the words of the chapter.
func mixed(b [4]byte) [4]byte {
	return [4]byte{
		product(2, b[0]) ^ product(3, b[1]) ^ b[2] ^ b[3],
		product(2, b[1]) ^ product(3, b[2]) ^ b[3] ^ b[0],
		product(2, b[2]) ^ product(3, b[3]) ^ b[0] ^ b[1],
		product(2, b[3]) ^ product(3, b[0]) ^ b[1] ^ b[2],
	}
}

// encrypted is a block encrypted by the words of the chapter, in a table of rows and columns.
func encrypted(key []byte, b cipher.Block, sub [256]byte) cipher.Block {
	keys := keyBytes(key, sub)
	var table [4][4]byte // first the row, then the column
	for n, x := range b {
		table[n%4][n/4] = x ^ keys[n]
	}
	for r := 1; r <= 14; r++ {
		var next [4][4]byte
		for i := range 4 {
			for c := range 4 {
				next[i][c] = sub[table[i][(c+i)%4]]
			}
		}
		for c := range 4 {
			column := [4]byte{next[0][c], next[1][c], next[2][c], next[3][c]}
			if r < 14 {
				column = mixed(column)
			}
			for i := range 4 {
				table[i][c] = column[i] ^ keys[16*r+4*c+i]
			}
		}
	}
	var out cipher.Block
	for n := range out {
		out[n] = table[n%4][n/4]
	}
	return out
}

// unhex reads bytes of a test's own.
func unhex(t *testing.T, s string) []byte {
	t.Helper()
	b, err := hex.DecodeString(s)
	if err != nil {
		t.Fatal(err)
	}
	return b
}

// made is the cipher of a key that may be.
func made(t *testing.T, key []byte) *cipher.Cipher {
	t.Helper()
	c, e := cipher.New(key)
	if c == nil || e != api.OK {
		t.Fatalf("New(%x): %v, %d", key, c, e)
	}
	return c
}

// drawn are bytes that a draw of the test's own makes.
func drawn(r *rand.Rand, n int) []byte {
	b := make([]byte, n)
	r.Read(b)
	return b
}

// counted is the key 0, 1, .. , 31.
func counted() []byte {
	key := make([]byte, 32)
	for i := range key {
		key[i] = byte(i)
	}
	return key
}

// TestP6_1_KnownAnswers holds the chapter's example (FIPS 197, C.3), those of NIST SP 800-38A, F.1.5, the one that layer 7's begins with, and of the known answers that NIST gives one with another key, and one with another block.
func TestP6_1_KnownAnswers(t *testing.T) {
	const (
		zeros = "0000000000000000000000000000000000000000000000000000000000000000"
		nist  = "603deb1015ca71be2b73aef0857d77811f352c073b6108d72d9810a30914dff4"
	)
	for _, c := range []struct{ key, plain, want string }{
		{hex.EncodeToString(counted()), "00112233445566778899aabbccddeeff", "8ea2b7ca516745bfeafc49904b496089"},
		{nist, "6bc1bee22e409f96e93d7e117393172a", "f3eed1bdb5d2a03c064b5a7e3db181f8"},
		{nist, "ae2d8a571e03ac9c9eb76fac45af8e51", "591ccb10d410ed26dc5ba74a31362870"},
		{nist, "30c81c46a35ce411e5fbc1191a0a52ef", "b6ed21b99ca6f4f9f153e7b1beafed1d"},
		{nist, "f69f2445df4f9b17ad2b417be66c3710", "23304b7a39f9f3ff067d8d8f9e24ecc7"},
		{zeros, "00000000000000000000000000000000", "dc95c078a2408989ad48a21492842087"},
		{"c47b0294dbbbee0fec4757f22ffeee3587ca4730c3d33b691df38bab076bc558", "00000000000000000000000000000000", "46f2fb342d6f0ab477476fc501242c5f"},
		{zeros, "80000000000000000000000000000000", "ddc6bf790c15760d8d9aeb6f9a75fd4e"},
	} {
		cph := made(t, unhex(t, c.key))
		plain, want := cipher.Block(unhex(t, c.plain)), cipher.Block(unhex(t, c.want))
		if got := cph.Encrypt(plain); got != want {
			t.Errorf("key %s: Encrypt(%x) = %x, not %x", c.key, plain, got, want)
		}
		if got := cph.Decrypt(want); got != plain {
			t.Errorf("key %s: Decrypt(%x) = %x, not %x", c.key, want, got, plain)
		}
	}
}

// TestP6_1_KeysOfEachLength hands in keys of other lengths too, with and without spare room.
func TestP6_1_KeysOfEachLength(t *testing.T) {
	lengths := []int{47, 48, 63, 64, 65, 256, 1 << 16}
	for n := range 35 {
		lengths = append(lengths, n)
	}
	for _, n := range lengths {
		for _, key := range [][]byte{make([]byte, n), make([]byte, n, n+40)} {
			c, e := cipher.New(key)
			if n == 32 && (c == nil || e != api.OK) {
				t.Errorf("32 bytes: %v, %d", c, e)
			}
			if n != 32 && (c != nil || e != api.ErrArg) {
				t.Errorf("%d bytes: %v, %d", n, c, e)
			}
		}
	}
	if c, e := cipher.New(nil); c != nil || e != api.ErrArg {
		t.Errorf("nil: %v, %d", c, e)
	}
}

// TestP6_1_KeyIsCopied changes the key's bytes behind New, and looks at them and their spare room ahead of that.
func TestP6_1_KeyIsCopied(t *testing.T) {
	room := append(counted(), 7, 7, 7, 7, 7, 7, 7, 7)
	before := bytes.Clone(room)
	c := made(t, room[:32])
	b := cipher.Block{1, 2, 3}
	want := c.Encrypt(b)
	if !bytes.Equal(room, before) {
		t.Fatalf("the key was changed: %x", room)
	}
	clear(room)
	if got := c.Encrypt(b); got != want {
		t.Errorf("Encrypt hangs on the key behind New: %x, not %x", got, want)
	}
	if got := c.Decrypt(want); got != b {
		t.Errorf("Decrypt hangs on the key behind New: %x, not %x", got, b)
	}
	if got := made(t, room[:32]).Encrypt(b); got == want {
		t.Error("another key encrypts alike")
	}
}

// TestP6_1_EncryptByTheChapter holds keys and blocks against the chapter's words.
func TestP6_1_EncryptByTheChapter(t *testing.T) {
	sub := substitutes()
	r := rand.New(rand.NewSource(61))
	for range 300 {
		key, b := drawn(r, 32), cipher.Block(drawn(r, 16))
		c, want := made(t, key), encrypted(key, b, sub)
		if got := c.Encrypt(b); got != want {
			t.Fatalf("key %x: Encrypt(%x) = %x, not %x", key, b, got, want)
		}
		if got := c.Decrypt(want); got != b {
			t.Fatalf("key %x: Decrypt(%x) = %x, not %x", key, want, got, b)
		}
	}
}

// TestP6_1_SingleBits sets each bit of a key, and of a block, alone.
func TestP6_1_SingleBits(t *testing.T) {
	sub := substitutes()
	for n := range 256 {
		key, b := make([]byte, 32), cipher.Block{}
		key[n/8] = 1 << (n % 8)
		if got, want := made(t, key).Encrypt(b), encrypted(key, b, sub); got != want {
			t.Fatalf("key %x: %x, not %x", key, got, want)
		}
	}
	key := make([]byte, 32)
	c := made(t, key)
	for n := range 128 {
		b := cipher.Block{}
		b[n/8] = 1 << (n % 8)
		want := encrypted(key, b, sub)
		if got := c.Encrypt(b); got != want {
			t.Fatalf("Encrypt(%x) = %x, not %x", b, got, want)
		}
		if got := c.Decrypt(want); got != b {
			t.Fatalf("Decrypt(%x) = %x, not %x", want, got, b)
		}
	}
}

// TestP6_1_AsTheLibrary holds many keys and blocks against crypto/aes.
func TestP6_1_AsTheLibrary(t *testing.T) {
	r := rand.New(rand.NewSource(16))
	for range 2000 {
		key, b := drawn(r, 32), cipher.Block(drawn(r, 16))
		c := made(t, key)
		lib, err := aes.NewCipher(key)
		if err != nil {
			t.Fatal(err)
		}
		var there, back cipher.Block
		lib.Encrypt(there[:], b[:])
		lib.Decrypt(back[:], b[:])
		if got := c.Encrypt(b); got != there {
			t.Fatalf("key %x: Encrypt(%x) = %x, not %x", key, b, got, there)
		}
		if got := c.Decrypt(b); got != back {
			t.Fatalf("key %x: Decrypt(%x) = %x, not %x", key, b, got, back)
		}
	}
}

// TestP6_1_CallsLeaveTheCipher holds that no call is seen in a later one, nor one cipher in another.
func TestP6_1_CallsLeaveTheCipher(t *testing.T) {
	r := rand.New(rand.NewSource(5))
	one, other := made(t, counted()), made(t, drawn(r, 32))
	b := cipher.Block(drawn(r, 16))
	first := one.Encrypt(b)
	for range 20 {
		x := cipher.Block(drawn(r, 16))
		other.Decrypt(x)
		one.Decrypt(other.Encrypt(x))
		if got := one.Encrypt(b); got != first {
			t.Fatalf("%x, not %x", got, first)
		}
	}
	*other = cipher.Cipher{}
	if one.Encrypt(b) != first || one.Decrypt(first) != b || made(t, counted()).Encrypt(b) != first {
		t.Error("a cipher hangs on another one")
	}
}

// TestP6_1_Unmade holds ciphers that are nil, or that no call made.
func TestP6_1_Unmade(t *testing.T) {
	r := rand.New(rand.NewSource(2))
	for name, c := range map[string]*cipher.Cipher{"nil": nil, "zero value": {}, "new": new(cipher.Cipher)} {
		for _, b := range []cipher.Block{{}, {1}, cipher.Block(drawn(r, 16)), cipher.Block(bytes.Repeat([]byte{255}, 16))} {
			if got := c.Encrypt(b); got != b {
				t.Errorf("%s: Encrypt(%x) = %x", name, b, got)
			}
			if got := c.Decrypt(b); got != b {
				t.Errorf("%s: Decrypt(%x) = %x", name, b, got)
			}
		}
	}
}

// TestP6_2_KnownColumns holds columns that are known mixed.
func TestP6_2_KnownColumns(t *testing.T) {
	for _, c := range []struct{ column, want [4]byte }{
		{[4]byte{0xdb, 0x13, 0x53, 0x45}, [4]byte{0x8e, 0x4d, 0xa1, 0xbc}},
		{[4]byte{0xf2, 0x0a, 0x22, 0x5c}, [4]byte{0x9f, 0xdc, 0x58, 0x9d}},
		{[4]byte{0xd4, 0xbf, 0x5d, 0x30}, [4]byte{0x04, 0x66, 0x81, 0xe5}}, // FIPS 197, B
		{[4]byte{0x2d, 0x26, 0x31, 0x4c}, [4]byte{0x4d, 0x7e, 0xbd, 0xf8}},
		{[4]byte{1, 1, 1, 1}, [4]byte{1, 1, 1, 1}},
		{[4]byte{0xc6, 0xc6, 0xc6, 0xc6}, [4]byte{0xc6, 0xc6, 0xc6, 0xc6}},
		{[4]byte{1, 0, 0, 0}, [4]byte{2, 1, 1, 3}},
		{[4]byte{0, 1, 0, 0}, [4]byte{3, 2, 1, 1}},
		{[4]byte{0, 0, 1, 0}, [4]byte{1, 3, 2, 1}},
		{[4]byte{0, 0, 0, 1}, [4]byte{1, 1, 3, 2}},
		{[4]byte{}, [4]byte{}},
	} {
		if got := cipher.Mix(c.column); got != c.want {
			t.Errorf("Mix(%x) = %x, not %x", c.column, got, c.want)
		}
		if got := cipher.Unmix(c.want); got != c.column {
			t.Errorf("Unmix(%x) = %x, not %x", c.want, got, c.column)
		}
	}
}

// columns are those with each byte at each place alone, and drawn ones.
func columns(n int) [][4]byte {
	l := [][4]byte{}
	for x := range 256 {
		for i := range 4 {
			var column [4]byte
			column[i] = byte(x)
			l = append(l, column)
		}
	}
	r := rand.New(rand.NewSource(62))
	for range n {
		l = append(l, [4]byte(drawn(r, 4)))
	}
	return l
}

// TestP6_2_MixByTheChapter holds columns against the chapter's words.
func TestP6_2_MixByTheChapter(t *testing.T) {
	for _, column := range columns(5000) {
		want := mixed(column)
		if got := cipher.Mix(column); got != want {
			t.Fatalf("Mix(%x) = %x, not %x", column, got, want)
		}
		if got := cipher.Unmix(want); got != column {
			t.Fatalf("Unmix(%x) = %x, not %x", want, got, column)
		}
	}
}

// TestP6_2_UnmixByTheChapter holds what Unmix answers of any column: the column that is mixed to it.
func TestP6_2_UnmixByTheChapter(t *testing.T) {
	for _, column := range columns(5000) {
		got := cipher.Unmix(column)
		if mixed(got) != column {
			t.Fatalf("Unmix(%x) = %x, which is mixed to %x", column, got, mixed(got))
		}
	}
}

// TestP6_3_ThereAndBack goes there and back from any block, from both ends.
func TestP6_3_ThereAndBack(t *testing.T) {
	r := rand.New(rand.NewSource(63))
	for range 100 {
		c := made(t, drawn(r, 32))
		for range 10 {
			b := cipher.Block(drawn(r, 16))
			if got := c.Decrypt(c.Encrypt(b)); got != b {
				t.Fatalf("Decrypt(Encrypt(%x)) = %x", b, got)
			}
			if got := c.Encrypt(c.Decrypt(b)); got != b {
				t.Fatalf("Encrypt(Decrypt(%x)) = %x", b, got)
			}
		}
	}
}

// TestP6_3_MixOverSums holds the sum of two columns mixed, and of two unmixed.
func TestP6_3_MixOverSums(t *testing.T) {
	l := columns(3000)
	for n, a := range l {
		b := l[len(l)-1-n]
		sum := [4]byte{a[0] ^ b[0], a[1] ^ b[1], a[2] ^ b[2], a[3] ^ b[3]}
		for name, of := range map[string]func([4]byte) [4]byte{"Mix": cipher.Mix, "Unmix": cipher.Unmix} {
			p, q := of(a), of(b)
			if got := of(sum); got != [4]byte{p[0] ^ q[0], p[1] ^ q[1], p[2] ^ q[2], p[3] ^ q[3]} {
				t.Fatalf("%s of %x and %x: %x", name, a, b, got)
			}
		}
	}
}

// TestP6_3_MixThereAndBack undoes each of the two by the other one.
func TestP6_3_MixThereAndBack(t *testing.T) {
	for _, column := range columns(3000) {
		if got := cipher.Unmix(cipher.Mix(column)); got != column {
			t.Fatalf("Unmix(Mix(%x)) = %x", column, got)
		}
		if got := cipher.Mix(cipher.Unmix(column)); got != column {
			t.Fatalf("Mix(Unmix(%x)) = %x", column, got)
		}
	}
}
