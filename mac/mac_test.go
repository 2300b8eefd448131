package mac_test

import (
	"bytes"
	"crypto/hmac"
	"crypto/sha256"
	"encoding/hex"
	"math"
	"slices"
	"strings"
	"testing"

	"mirador/api"
	"mirador/mac"
)

func text(x api.Id) string { return hex.EncodeToString(x[:]) }

// draw makes n bytes, other ones for each seed.
func draw(seed uint32, n int) []byte {
	out := make([]byte, n)
	x := seed*2654435761 + 1
	for i := range out {
		x ^= x << 13
		x ^= x >> 17
		x ^= x << 5
		out[i] = byte(x >> 11)
	}
	return out
}

// block is a key's block, by the words of the chapter.
func block(key []byte) []byte {
	if len(key) > 64 {
		sum := sha256.Sum256(key)
		key = sum[:]
	}
	return append(slices.Clone(key), make([]byte, 64-len(key))...)
}

// tagOf is the tag, by the words of the chapter, by the library's hash.
func tagOf(key []byte, parts ...[]byte) api.Id {
	inner, outer := block(key), block(key)
	for i := range 64 {
		inner[i] ^= 54
		outer[i] ^= 92
	}
	sum := sha256.Sum256(append(inner, bytes.Join(parts, nil)...))
	return sha256.Sum256(append(outer, sum[:]...))
}

// derived are all 8192 bytes, by the words of the chapter.
func derived(key []byte, label string) []byte {
	var out []byte
	for n := range 256 {
		id := tagOf(key, []byte(label), []byte{byte(n)})
		out = append(out, id[:]...)
	}
	return out
}

// keyLengths are those where a key's block is made another way, and the ones beside them.
func keyLengths() []int {
	return []int{0, 1, 16, 20, 31, 32, 33, 55, 56, 63, 64, 65, 66, 127, 128, 129, 131, 1000}
}

// labels are no bytes, ordinary ones, bytes that are no text, and some that fill a piece of the hash.
func labels() []string {
	return []string{"", "x", "seal", "a label, of some words", "\x00", "\xff\xfe\x80", "é", strings.Repeat("l", 55), strings.Repeat("l", 63), strings.Repeat("l", 64), strings.Repeat("l", 300)}
}

// known are tags that are told by others than this project (the first six: RFC 4231).
func known() []struct{ key, data, want string } {
	r := strings.Repeat
	return []struct{ key, data, want string }{
		{r("\x0b", 20), "Hi There", "b0344c61d8db38535ca8afceaf0bf12b881dc200c9833da726e9376c2e32cff7"},
		{"Jefe", "what do ya want for nothing?", "5bdcc146bf60754e6a042426089575c75a003f089d2739839dec58b964ec3843"},
		{r("\xaa", 20), r("\xdd", 50), "773ea91e36800e46854db8ebd09181a72959098b3ef8c122d9635514ced565fe"},
		{"\x01\x02\x03\x04\x05\x06\x07\x08\x09\x0a\x0b\x0c\x0d\x0e\x0f\x10\x11\x12\x13\x14\x15\x16\x17\x18\x19", r("\xcd", 50), "82558a389a443c0ea4cc819899f2083a85f0faa3e578f8077a2e3ff46729665b"},
		{r("\xaa", 131), "Test Using Larger Than Block-Size Key - Hash Key First", "60e431591ee0b67f0d8a26aacbf5b77f8e0bc6213728c5140546040f0ee37f54"},
		{r("\xaa", 131), "This is a test using a larger than block-size key and a larger than block-size data. The key needs to be hashed before being used by the HMAC algorithm.", "9b09ffa71b942fcb27635fbcd5b0e944bfdc63644f0713938a7f51535c3a35e2"},
		{"", "", "b613679a0814d9ec772f95d778c35fc5ff1697c493715653c6c712144292c5ad"},
		{"key", "The quick brown fox jumps over the lazy dog", "f7bc83f430538424b13298e6aa6fb143ef4d59a14946175997479dbc2d1a3cd8"},
	}
}

func TestP3_1_Known(t *testing.T) {
	for _, c := range known() {
		got := mac.Of([]byte(c.key), []byte(c.data))
		if text(got) != c.want {
			t.Errorf("by a key of %d bytes, %.20q: %s, not %s", len(c.key), c.data, text(got), c.want)
		}
		if !mac.Check([]byte(c.key), got[:], []byte(c.data)) {
			t.Errorf("by a key of %d bytes, %.20q: its tag does not fit", len(c.key), c.data)
		}
	}
}

func TestP3_1_EachKeyLength(t *testing.T) {
	for _, k := range keyLengths() {
		for _, n := range []int{0, 1, 55, 56, 63, 64, 65, 200, 1000} {
			key, b := draw(uint32(k), k), draw(uint32(n)+5000, n)
			h := hmac.New(sha256.New, key)
			h.Write(b)
			got, want := mac.Of(key, b), h.Sum(nil)
			if !bytes.Equal(got[:], want) || got != tagOf(key, b) {
				t.Errorf("by a key of %d bytes, %d bytes: %s, not %x", k, n, text(got), want)
			}
			if !mac.Check(key, want, b) {
				t.Errorf("by a key of %d bytes, %d bytes: the tag does not fit", k, n)
			}
		}
	}
}

// TestP3_1_KeysBlock holds what makes a key's block: keys with one block have one tag, and just 64 bytes are not hashed.
func TestP3_1_KeysBlock(t *testing.T) {
	b := []byte("some bytes")
	for _, k := range keyLengths() {
		key := draw(uint32(k)+1, k)
		if mac.Of(key, b) != mac.Of(block(key), b) {
			t.Errorf("a key of %d bytes, and its block: other tags", k)
		}
		sum := sha256.Sum256(key)
		if same := mac.Of(key, b) == mac.Of(sum[:], b); same != (k > 64) {
			t.Errorf("a key of %d bytes, and its hash: one tag: %v", k, same)
		}
	}
	if mac.Of(nil, b) != mac.Of([]byte{}, b) || mac.Of(nil, b) != mac.Of(make([]byte, 64), b) || mac.Of(nil, b) == mac.Of(make([]byte, 65), b) {
		t.Error("a key of no bytes, and of bytes 0")
	}
}

func TestP3_1_Parts(t *testing.T) {
	for _, key := range [][]byte{nil, draw(1, 32), draw(2, 64), draw(3, 100)} {
		for _, parts := range [][][]byte{
			nil,
			{},
			{nil},
			{{}, nil, {}},
			{[]byte("abc")},
			{[]byte("a"), []byte("bc")},
			{nil, []byte("a"), {}, []byte("b"), nil, nil, []byte("c"), {}},
			{[]byte("c"), []byte("b"), []byte("a")},
			{draw(4, 63), draw(5, 1), draw(6, 1)},
			{draw(4, 64), nil, draw(5, 64)},
			{draw(4, 5000), draw(5, 3), draw(6, 5000)},
		} {
			got, want := mac.Of(key, parts...), tagOf(key, parts...)
			if got != want || got != mac.Of(key, bytes.Join(parts, nil)) {
				t.Errorf("by a key of %d bytes, of %d parts: %s, not %s", len(key), len(parts), text(got), text(want))
			}
			if !mac.Check(key, want[:], parts...) || !mac.Check(key, want[:], bytes.Join(parts, nil)) {
				t.Errorf("by a key of %d bytes, of %d parts: the tag does not fit", len(key), len(parts))
			}
		}
		if mac.Of(key) != tagOf(key) {
			t.Errorf("by a key of %d bytes, of no parts: %s", len(key), text(mac.Of(key)))
		}
	}
}

func TestP3_1_ManyParts(t *testing.T) {
	key, b := draw(1, 40), draw(2, 1500)
	var parts [][]byte
	for i := range b {
		parts = append(parts, b[i:i+1], nil)
	}
	want := tagOf(key, b)
	if got := mac.Of(key, parts...); got != want || !mac.Check(key, want[:], parts...) {
		t.Errorf("%s, not %s", text(got), text(want))
	}
}

// TestP3_1_CheckOfNoTag hands in tags of other lengths than 32 bytes: beginnings of the tag, and what goes on behind it.
func TestP3_1_CheckOfNoTag(t *testing.T) {
	key, b := draw(1, 32), draw(2, 100)
	tag := tagOf(key, b)
	long := slices.Concat(tag[:], tag[:])
	for n := range len(long) + 1 {
		if got := mac.Check(key, long[:n], b); got != (n == 32) {
			t.Errorf("Check of %d bytes: %v", n, got)
		}
	}
	for _, bad := range [][]byte{nil, {}, tag[1:], make([]byte, 32), append(tag[:len(tag):len(tag)], 0), append([]byte{0}, tag[:]...), append([]byte{0}, tag[:31]...)} {
		if mac.Check(key, bad, b) {
			t.Errorf("Check of %x", bad)
		}
	}
}

func TestP3_1_Equal(t *testing.T) {
	for _, c := range []struct {
		a, b []byte
		want bool
	}{
		{nil, nil, true},
		{nil, []byte{}, true},
		{[]byte{}, []byte{}, true},
		{[]byte{0}, nil, false},
		{nil, []byte{0}, false},
		{[]byte{1}, nil, false},
		{[]byte{1, 2}, []byte{1, 2}, true},
		{[]byte{1, 2}, []byte{1, 3}, false},
		{[]byte{1, 2}, []byte{2, 2}, false},
		{[]byte{1, 2}, []byte{2, 1}, false},
		{[]byte{1, 2}, []byte{1}, false},
		{[]byte{1}, []byte{1, 2}, false},
		{[]byte{1, 0}, []byte{1}, false},
		{[]byte{1}, []byte{1, 0}, false},
		{[]byte{5, 5}, []byte{6, 6}, false},
		{[]byte{1, 2}, []byte{2, 4}, false},
		{[]byte{0, 128}, []byte{0, 0}, false},
		{draw(1, 1000), draw(1, 1000), true},
		{draw(1, 1000), draw(2, 1000), false},
		{draw(1, 1000), draw(1, 1256), false},
	} {
		if got := mac.Equal(c.a, c.b); got != c.want {
			t.Errorf("Equal(%.20v, %.20v) = %v", c.a, c.b, got)
		}
	}
}

// TestP3_1_EqualEachBit turns each bit of bytes, and then that of another byte with it, so that turns that undo one another would be seen.
func TestP3_1_EqualEachBit(t *testing.T) {
	for _, n := range []int{1, 2, 31, 32, 33, 70} {
		a := draw(uint32(n), n)
		for i := range 8 * n {
			b := slices.Clone(a)
			b[i/8] ^= 1 << (i % 8)
			if mac.Equal(a, b) || mac.Equal(b, a) {
				t.Fatalf("%d bytes, the bit %d turned: the same", n, i)
			}
			if n > 1 {
				b[(i/8+1)%n] ^= 1 << (i % 8)
				if mac.Equal(a, b) || mac.Equal(b, a) {
					t.Fatalf("%d bytes, the bit %d of two turned: the same", n, i)
				}
			}
		}
		if !mac.Equal(a, slices.Clone(a)) || !mac.Equal(a, a) {
			t.Errorf("%d bytes: not the same", n)
		}
	}
}

func TestP3_2_EachMany(t *testing.T) {
	key := draw(1, 32)
	all := derived(key, "seal")
	for many := -70; many <= 300; many++ {
		if got, want := mac.Derive(key, "seal", many), all[:max(many, 0)]; !bytes.Equal(got, want) {
			t.Fatalf("Derive of %d bytes: %x, not %x", many, got, want)
		}
	}
}

func TestP3_2_Held(t *testing.T) {
	for _, key := range [][]byte{nil, draw(1, 20), draw(2, 64), draw(3, 65)} {
		all := derived(key, "label")
		for _, many := range []int{math.MinInt, math.MinInt32, -8193, -8192, -256, -33, -32, -1, 0} {
			if got := mac.Derive(key, "label", many); len(got) != 0 {
				t.Errorf("Derive of %d: %d bytes", many, len(got))
			}
		}
		for _, many := range []int{1, 31, 32, 33, 4096, 8159, 8160, 8161, 8191} {
			if got := mac.Derive(key, "label", many); !bytes.Equal(got, all[:many]) {
				t.Errorf("Derive of %d: %d bytes, or other ones", many, len(got))
			}
		}
		for _, many := range []int{8192, 8193, 8224, 16384, math.MaxInt32, 1 << 32, 1 << 40, math.MaxInt} {
			if got := mac.Derive(key, "label", many); !bytes.Equal(got, all) {
				t.Errorf("Derive of %d: %d bytes, or other ones", many, len(got))
			}
		}
	}
}

func TestP3_2_KeysAndLabels(t *testing.T) {
	for _, k := range keyLengths() {
		key := draw(uint32(k)+9, k)
		for _, label := range labels() {
			all := derived(key, label)
			for _, many := range []int{0, 1, 32, 70, 8192} {
				if got := mac.Derive(key, label, many); !bytes.Equal(got, all[:many]) {
					t.Fatalf("by a key of %d bytes, %.20q, of %d: %d bytes, or other ones", k, label, many, len(got))
				}
			}
		}
	}
}

// TestP3_2_TagsOfLabelAndNumber holds Derive against Of: the label's bytes, and behind them one byte, up to 255.
func TestP3_2_TagsOfLabelAndNumber(t *testing.T) {
	key := draw(1, 40)
	all := mac.Derive(key, "x", 8192)
	for n := range 256 {
		id := mac.Of(key, []byte{'x', byte(n)})
		if !bytes.Equal(all[32*n:32*n+32], id[:]) {
			t.Fatalf("the tag %d: %x, not %s", n, all[32*n:32*n+32], text(id))
		}
	}
}

// turned are bytes with each of their bits turned, one at a time.
func turned(b []byte) [][]byte {
	var l [][]byte
	for i := range 8 * len(b) {
		c := slices.Clone(b)
		c[i/8] ^= 1 << (i % 8)
		l = append(l, c)
	}
	return l
}

func TestP3_3_NoOtherTag(t *testing.T) {
	for _, k := range []int{1, 20, 64, 65} {
		key, b := draw(uint32(k), k), draw(7, 70)
		tag := mac.Of(key, b)
		for _, bad := range turned(tag[:]) {
			if mac.Check(key, bad, b) {
				t.Fatalf("by a key of %d bytes: %x fits, and %s", k, bad, text(tag))
			}
		}
		for seed := range uint32(50) {
			if mac.Check(key, draw(seed, 32), b) {
				t.Fatalf("by a key of %d bytes: drawn bytes fit", k)
			}
		}
	}
}

func TestP3_3_NoOtherBytes(t *testing.T) {
	key := draw(3, 32)
	for _, n := range []int{1, 63, 64, 65, 130} {
		b := draw(uint32(n), n)
		tag := mac.Of(key, b)
		for i, bad := range turned(b) {
			if mac.Check(key, tag[:], bad) || mac.Of(key, bad) == tag {
				t.Fatalf("%d bytes: with the bit %d turned the tag fits", n, i)
			}
			if mac.Check(key, tag[:], bad[:n/2], bad[n/2:]) {
				t.Fatalf("%d bytes, in two parts: with the bit %d turned the tag fits", n, i)
			}
		}
		if mac.Check(key, tag[:], b[1:]) || mac.Check(key, tag[:], b[:n-1]) || mac.Check(key, tag[:], b, []byte{0}) || mac.Check(key, tag[:], []byte{0}, b) || mac.Check(key, tag[:]) {
			t.Errorf("%d bytes: with more or fewer the tag fits", n)
		}
	}
}

func TestP3_3_NoOtherKey(t *testing.T) {
	b := draw(8, 50)
	for _, k := range []int{1, 20, 32, 63, 64, 65, 131} {
		key := draw(uint32(k), k)
		tag, bytes40 := mac.Of(key, b), mac.Derive(key, "seal", 40)
		for i, bad := range turned(key) {
			if mac.Check(bad, tag[:], b) || mac.Of(bad, b) == tag {
				t.Fatalf("a key of %d bytes: with the bit %d turned the tag fits", k, i)
			}
			if bytes.Equal(mac.Derive(bad, "seal", 40), bytes40) {
				t.Fatalf("a key of %d bytes: with the bit %d turned the same bytes are derived", k, i)
			}
		}
		if mac.Check(key[1:], tag[:], b) || mac.Check(key[:k-1], tag[:], b) || mac.Check(nil, tag[:], b) || mac.Check(b, tag[:], key) {
			t.Errorf("a key of %d bytes: by another one the tag fits", k)
		}
	}
}

func TestP3_3_FewerBeginMore(t *testing.T) {
	for _, label := range labels() {
		key := draw(uint32(len(label)), 32)
		all := mac.Derive(key, label, 8192)
		if len(all) != 8192 {
			t.Fatalf("%.20q: %d bytes", label, len(all))
		}
		for many := 0; many <= 8192; many += 1 + many/4 {
			if got := mac.Derive(key, label, many); len(got) != many || !bytes.Equal(got, all[:many]) {
				t.Fatalf("%.20q, %d bytes: no beginning of more", label, many)
			}
		}
	}
}

func TestP3_3_LabelsApart(t *testing.T) {
	key := draw(1, 32)
	met := map[string]string{}
	for _, label := range labels() {
		got := string(mac.Derive(key, label, 32))
		if other, ok := met[got]; ok {
			t.Errorf("%.20q and %.20q derive the same bytes", label, other)
		}
		met[got] = label
	}
}

// TestMemory holds the document's rules 4 and 5: what is handed in is not changed, nor its spare room, answers are new memory, and no call is seen in a later one.
func TestMemory(t *testing.T) {
	whole := draw(5, 300)
	b := slices.Clone(whole)
	key, parts := b[:20], [][]byte{b[100:110], b[120:130], b[200:210]}
	tag := mac.Of(key, parts[:2]...)
	copy(b[250:], tag[:])
	copy(whole[250:], tag[:])
	if !mac.Check(key, b[250:282], parts[:2]...) {
		t.Error("Check: false")
	}
	mac.Check(b[:65], b[250:260], parts[:1]...)
	mac.Equal(b[:20], b[30:60])
	first, second := mac.Derive(key, "x", 70), mac.Derive(key, "x", 70)
	if !bytes.Equal(b, whole) || !bytes.Equal(parts[2], whole[200:210]) {
		t.Fatal("changed")
	}
	clear(first[:cap(first)])
	if !bytes.Equal(second, derived(whole[:20], "x")[:70]) || !bytes.Equal(b, whole) {
		t.Error("Derive's answers share memory")
	}
	if mac.Of(key, parts[:2]...) != tagOf(whole[:20], whole[100:110], whole[120:130]) {
		t.Error("Of: other answers for the same bytes")
	}
}
