package hex_test

import (
	"bytes"
	library "encoding/hex"
	"math"
	"math/big"
	"math/rand"
	"regexp"
	"slices"
	"strings"
	"testing"

	"mirador/api"
	"mirador/hex"
)

const idBytes = 32

// What the chapter's words let be the text of bytes, of an id and of a number.
var (
	bytesForm = regexp.MustCompile(`\A(-|([0-9a-f][0-9a-f])+)\z`)
	idForm    = regexp.MustCompile(`\A(00|([0-9a-f][0-9a-f]){0,31}([1-9a-f][0-9a-f]|0[1-9a-f]))\z`)
	numForm   = regexp.MustCompile(`\A(0|[1-9][0-9]*)\z`)
)

// textOf is the text of bytes, with the library's.
func textOf(b []byte) string {
	if len(b) == 0 {
		return "-"
	}
	return library.EncodeToString(b)
}

// idTextOf is the text of an id: that of its bytes up to the last one that is not 0.
func idTextOf(x api.Id) string {
	for i := idBytes - 1; i >= 0; i-- {
		if x[i] != 0 {
			return textOf(x[:i+1])
		}
	}
	return "00"
}

// drawn are bytes that a draw of the test's own makes.
func drawn(r *rand.Rand, n int) []byte {
	b := make([]byte, n)
	r.Read(b)
	return b
}

// byteLists are no bytes, each single byte, and many.
func byteLists(r *rand.Rand) [][]byte {
	l := [][]byte{nil, {}, make([]byte, 0, 9), {10, 255}, {0, 10, 255}}
	for i := range 256 {
		l = append(l, []byte{byte(i)})
	}
	var all []byte
	for i := range 256 {
		all = append(all, byte(i))
	}
	l = append(l, all)
	for n := range 100 {
		l = append(l, drawn(r, n), make([]byte, n), bytes.Repeat([]byte{255}, n))
	}
	return append(l, drawn(r, 600), drawn(r, 1<<16), drawn(r, 1<<20+1))
}

// ids are the id of bytes 0 alone, ids whose last byte that is not 0 stands at each place (with bytes 0 ahead, and with others), and ids without a byte 0.
func ids(r *rand.Rand) []api.Id {
	l := []api.Id{{}, {10, 255}, {0, 10, 0, 255}}
	for at := range idBytes {
		for _, last := range []byte{1, 10, 15, 16, 160, 240, 255} {
			var alone, behind api.Id
			copy(behind[:], drawn(r, at))
			alone[at], behind[at] = last, last
			l = append(l, alone, behind)
		}
	}
	l = append(l, api.Id(bytes.Repeat([]byte{255}, idBytes)), api.Id(bytes.Repeat([]byte{1}, idBytes)))
	for range 50 {
		var x api.Id
		for i := range x {
			x[i] = byte(1 + r.Intn(255))
		}
		l = append(l, x)
	}
	return l
}

// numbers are 0, each power of 10 and of 2 and what is beside them, the greatest ones, and drawn ones of every size.
func numbers(r *rand.Rand) []uint64 {
	l := []uint64{0, 1, 2, 9, 12, math.MaxInt64, math.MaxUint64, math.MaxUint64 - 1, math.MaxUint64 - 5, math.MaxUint64 / 10, math.MaxUint64/10 + 1}
	for p := uint64(1); ; p *= 10 {
		l = append(l, p-1, p, p+1)
		if p == 1e19 {
			break
		}
	}
	for i := range 64 {
		l = append(l, 1<<i-1, 1<<i, 1<<i+1, r.Uint64()>>i)
	}
	return l
}

// noSigns are bytes as text that are no sign of any text here: beside the digits and letters, capitals, blanks, signs of more than one byte (also such as have the numbers of a digit or a letter in their lowest byte, and digits of other scripts), and bytes that are no sign.
func noSigns() []string {
	l := []string{"é", "ä", "İ", "\u0161", "\u0430", "\u0661", "\uff10", "\uff21", "\uff41", "\u0130\u0131", "\u3030", "\U00010030", "\U0001d7ce", "\U00010061", "\ufffd", "\u00b2", "\xff", "\xc3", "\x80", "\xe2\x82", "\xc0\xb0", "\xb0", "\xe1", "\xed\xa0\x80", "\xf4\x90\x80\x80"}
	for b := range 256 {
		if b >= '0' && b <= '9' || b >= 'a' && b <= 'f' {
			continue
		}
		l = append(l, string([]byte{byte(b)}))
	}
	return l
}

// among puts a text ahead of another one, behind it, and at each place in it.
func among(s, other string) []string {
	var l []string
	for at := range len(other) + 1 {
		l = append(l, other[:at]+s+other[at:])
	}
	return l
}

// texts are those of every mix of few signs, up to some number of them.
func texts(signs []string, most int) []string {
	l, last := []string{""}, []string{""}
	for range most {
		var next []string
		for _, s := range last {
			for _, sign := range signs {
				next = append(next, s+sign)
			}
		}
		l, last = append(l, next...), next
	}
	return l
}

// readsBytes holds that the text is that of these bytes.
func readsBytes(t *testing.T, s string, want []byte) {
	t.Helper()
	if b, e := hex.Bytes(s); e != api.OK || !bytes.Equal(b, want) {
		t.Errorf("Bytes of %.80q: %.40v, %d; not %.40v", s, b, e, want)
	}
}

// noBytes holds that the text is that of no bytes at all: ErrForm, and nothing.
func noBytes(t *testing.T, s string) {
	t.Helper()
	if b, e := hex.Bytes(s); e != api.ErrForm || len(b) != 0 {
		t.Errorf("Bytes of %.80q: %.40v, %d", s, b, e)
	}
}

// readsId holds that the text is that of this id.
func readsId(t *testing.T, s string, want api.Id) {
	t.Helper()
	if x, e := hex.IdOf(s); e != api.OK || x != want {
		t.Errorf("IdOf %.80q: %v, %d; not %v", s, x, e, want)
	}
}

// noId holds that the text is no id's: ErrForm, and the id of bytes 0 alone.
func noId(t *testing.T, s string) {
	t.Helper()
	if x, e := hex.IdOf(s); e != api.ErrForm || x != (api.Id{}) {
		t.Errorf("IdOf %.80q: %v, %d", s, x, e)
	}
}

// readsNum holds what the text is with that most: a number, or an error and 0.
func readsNum(t *testing.T, s string, most, want uint64, err api.Errno) {
	t.Helper()
	if n, e := hex.NumOf(s, most); e != err || n != want {
		t.Errorf("NumOf(%.80q, %d): %d, %d; not %d, %d", s, most, n, e, want, err)
	}
}

// noNum holds that the text is no number's, whatever is most.
func noNum(t *testing.T, s string) {
	t.Helper()
	for _, most := range []uint64{0, 1, 5, 10, 100, math.MaxUint64 - 1, math.MaxUint64} {
		readsNum(t, s, most, 0, api.ErrForm)
	}
}

// TestP12_1_Examples holds the chapter's examples.
func TestP12_1_Examples(t *testing.T) {
	if s := hex.Text([]byte{10, 255}); s != "0aff" {
		t.Errorf("Text of 10, 255: %q", s)
	}
	readsId(t, "0aff", api.Id{10, 255})
	noId(t, "0a00")
}

// TestP12_1_Text tells no bytes, each single byte, and many.
func TestP12_1_Text(t *testing.T) {
	for _, b := range byteLists(rand.New(rand.NewSource(1))) {
		if s, want := hex.Text(b), textOf(b); s != want {
			t.Errorf("Text of %.40v: %.80q, not %.80q", b, s, want)
		}
	}
	for _, known := range []struct {
		b []byte
		s string
	}{{nil, "-"}, {[]byte{}, "-"}, {[]byte{0}, "00"}, {[]byte{0, 0}, "0000"}, {[]byte{9, 160}, "09a0"}, {[]byte{0x12, 0x34, 0x56, 0x78, 0x9a, 0xbc, 0xde, 0xf0}, "123456789abcdef0"}} {
		if s := hex.Text(known.b); s != known.s {
			t.Errorf("Text of %v: %q, not %q", known.b, s, known.s)
		}
	}
}

// TestP12_1_IdText tells the id of bytes 0 alone, ids whose last byte that is not 0 stands at each place, and ids without a byte 0.
func TestP12_1_IdText(t *testing.T) {
	for _, x := range ids(rand.New(rand.NewSource(2))) {
		if s, want := hex.IdText(x), idTextOf(x); s != want {
			t.Errorf("IdText of %v: %q, not %q", x, s, want)
		}
	}
	for _, known := range []struct {
		x api.Id
		s string
	}{
		{api.Id{}, "00"},
		{api.Id{1, 0, 2}, "010002"},
		{api.Id{0, 1}, "0001"},
		{api.Id{16}, "10"},
		{api.Id{31: 0xab}, strings.Repeat("00", 31) + "ab"},
		{api.Id{30: 1}, strings.Repeat("00", 30) + "01"},
	} {
		if s := hex.IdText(known.x); s != known.s {
			t.Errorf("IdText of %v: %q, not %q", known.x, s, known.s)
		}
	}
}

// TestP12_1_Num tells numbers of every size, up to the greatest.
func TestP12_1_Num(t *testing.T) {
	for _, n := range numbers(rand.New(rand.NewSource(3))) {
		if s, want := hex.Num(n), new(big.Int).SetUint64(n).String(); s != want {
			t.Errorf("Num(%d): %q, not %q", n, s, want)
		}
	}
	if hex.Num(0) != "0" || hex.Num(10) != "10" || hex.Num(math.MaxUint64) != "18446744073709551615" {
		t.Error("Num of 0, of 10, or of the greatest")
	}
}

// TestP12_1_Unchanged holds that bytes that were handed in are as they were, their spare room too, and that nothing of them is kept.
func TestP12_1_Unchanged(t *testing.T) {
	room := []byte("some bytes, and what stands behind")
	was := bytes.Clone(room)
	s := hex.Text(room[:10])
	if !bytes.Equal(room, was) {
		t.Errorf("changed: %q", room)
	}
	clear(room)
	if s != textOf(was[:10]) {
		t.Errorf("the text goes on with the bytes: %q", s)
	}
	x := api.Id{1, 2, 3}
	if hex.IdText(x) != "010203" || x != (api.Id{1, 2, 3}) {
		t.Errorf("the id is %v", x)
	}
}

// TestP12_2_Bytes reads the texts of no bytes, of each single byte, and of many.
func TestP12_2_Bytes(t *testing.T) {
	for _, b := range byteLists(rand.New(rand.NewSource(4))) {
		readsBytes(t, textOf(b), b)
	}
	readsBytes(t, "-", nil)
	readsBytes(t, "00", []byte{0})
	readsBytes(t, "123456789abcdef0", []byte{0x12, 0x34, 0x56, 0x78, 0x9a, 0xbc, 0xde, 0xf0})
}

// TestP12_2_BytesOfNone reads texts that are none's: no sign, capitals, other signs, the sign - with others beside it.
func TestP12_2_BytesOfNone(t *testing.T) {
	for _, s := range []string{"", "0", "0A", "A0", "FF", "0g", "g0", "--", "---", "-0", "0-", "00-", "-00", "0-0-", "-0-0", "-ab-", "0x", "0x00", "+0", " 0", "0 ", "00 ", " 00", "00\n", "\n", "00 00", "0:", "0/", "0`", "0@", "0G", ":0", "/0", "`0"} {
		noBytes(t, s)
	}
	for _, sign := range noSigns() {
		if sign != "-" {
			noBytes(t, sign)
		}
		noBytes(t, sign+sign)
		for _, other := range []string{"0", "00", "abc", "0123", strings.Repeat("5f", 20), "-"} {
			for _, s := range among(sign, other) {
				noBytes(t, s)
			}
		}
	}
}

// TestP12_2_BytesOfOdd reads texts of an odd number of signs.
func TestP12_2_BytesOfOdd(t *testing.T) {
	r := rand.New(rand.NewSource(5))
	for n := range 70 {
		s := textOf(drawn(r, n+1))
		noBytes(t, s[1:])
		noBytes(t, s[:2*n+1])
	}
	noBytes(t, strings.Repeat("0", 1<<20+1))
}

// TestP12_2_BytesAreNew turns what was read: a later call reads the same.
func TestP12_2_BytesAreNew(t *testing.T) {
	first, _ := hex.Bytes("0aff")
	again, _ := hex.Bytes("0aff")
	all := first[:cap(first)]
	for i := range all {
		all[i] = 77
	}
	_ = append(first, 1, 2, 3)
	if !bytes.Equal(again, []byte{10, 255}) {
		t.Errorf("two answers share memory: %v", again)
	}
	readsBytes(t, "0aff", []byte{10, 255})
	none, _ := hex.Bytes("-")
	_ = append(none, 1, 2, 3)
	readsBytes(t, "-", nil)
}

// TestP12_2_IdOf reads the texts of ids.
func TestP12_2_IdOf(t *testing.T) {
	for _, x := range ids(rand.New(rand.NewSource(6))) {
		readsId(t, idTextOf(x), x)
	}
	readsId(t, "00", api.Id{})
	readsId(t, "10", api.Id{16})
	readsId(t, "0001", api.Id{0, 1})
	readsId(t, strings.Repeat("ff", 31)+"10", api.Id(append(bytes.Repeat([]byte{255}, 31), 16)))
}

// TestP12_2_IdOfNone reads texts that are none's: bytes 0 at the end, more than 32 bytes, the text of no bytes, and what is no text of bytes either.
func TestP12_2_IdOfNone(t *testing.T) {
	for _, s := range []string{"", "-", "--", "0", "1", "000", "0000", "0a00", "0100", "010", "001", "0A", "AB", "-00", "00-", "0x01", " 01", "01 ", "01\n", "+1"} {
		noId(t, s)
	}
	for _, x := range ids(rand.New(rand.NewSource(7))) {
		s := idTextOf(x)
		for more := 1; more <= 33; more++ {
			noId(t, s+strings.Repeat("00", more))
		}
		noId(t, s[1:])
		noId(t, s[:len(s)-1])
		noId(t, s+"0")
	}
	for n := range 70 {
		if n != 1 {
			noId(t, strings.Repeat("00", n))
		}
		if n > idBytes {
			noId(t, strings.Repeat("01", n))
			noId(t, strings.Repeat("00", n-1)+"01")
		}
	}
	noId(t, strings.Repeat("5f", 1<<20))
	for _, sign := range noSigns() {
		for _, other := range []string{"", "0", "01", "abc", strings.Repeat("5f", idBytes)} {
			for _, s := range among(sign, other) {
				noId(t, s)
			}
		}
	}
}

// TestP12_2_NumOf reads the texts of numbers with the most that is the number itself, one less, one more, 0, and the greatest.
func TestP12_2_NumOf(t *testing.T) {
	for _, n := range numbers(rand.New(rand.NewSource(8))) {
		s := new(big.Int).SetUint64(n).String()
		readsNum(t, s, n, n, api.OK)
		readsNum(t, s, math.MaxUint64, n, api.OK)
		if n < math.MaxUint64 {
			readsNum(t, s, n+1, n, api.OK)
		}
		if n > 0 {
			readsNum(t, s, n-1, 0, api.ErrLong)
			readsNum(t, s, n/2, 0, api.ErrLong)
			readsNum(t, s, n/10, 0, api.ErrLong)
			readsNum(t, s, 0, 0, api.ErrLong)
		}
	}
}

// TestP12_2_NumOfAnyMost reads each number below some with each most below some.
func TestP12_2_NumOfAnyMost(t *testing.T) {
	for n := range uint64(240) {
		s := new(big.Int).SetUint64(n).String()
		for most := range uint64(240) {
			if n > most {
				readsNum(t, s, most, 0, api.ErrLong)
				continue
			}
			readsNum(t, s, most, n, api.OK)
		}
	}
}

// TestP12_2_NumOfNone reads texts that are none's: no sign, needless noughts, signs that are no digits, + or - ahead. That is told also where there are more digits than any number has.
func TestP12_2_NumOfNone(t *testing.T) {
	for _, s := range []string{"", "00", "01", "007", "000", "-", "+", "-0", "+0", "-1", "+1", "--1", "1-", "1+", "a", "f", "1a", "a1", "ff", "0x1", "0b1", "1_000", "1e3", "1.0", ".1", "1.", " 1", "1 ", "1\n", "\n1", "0 ", " 0", "1 2", "00000000000000000000000000000000000001", "018446744073709551615", "099999999999999999999999"} {
		noNum(t, s)
	}
	many := strings.Repeat("9", 40)
	for _, sign := range append(noSigns(), "a", "b", "c", "d", "e", "f", ":", "/") {
		for _, other := range []string{"", "0", "7", "12", "18446744073709551615", "18446744073709551616", many} {
			for _, s := range among(sign, other) {
				noNum(t, s)
			}
		}
	}
	for n := 2; n < 50; n++ {
		noNum(t, strings.Repeat("0", n))
	}
	noNum(t, strings.Repeat("7", 1<<16)+"x")
	noNum(t, "x"+strings.Repeat("7", 1<<16))
	noNum(t, "0"+strings.Repeat("7", 1<<16))
}

// TestP12_2_NumOfLong reads numbers above the greatest that the type has, of however many digits: also such as are small again where sums go round.
func TestP12_2_NumOfLong(t *testing.T) {
	round := new(big.Int).Lsh(big.NewInt(1), 64)
	var l []string
	for _, times := range []int64{1, 2, 3, 9, 10, 11, 1000, math.MaxInt64} {
		for _, more := range []int64{0, 1, 5, 9, 10, math.MaxInt64} {
			n := new(big.Int).Mul(round, big.NewInt(times))
			l = append(l, n.Add(n, big.NewInt(more)).String())
		}
	}
	for digits := 21; digits < 200; digits++ {
		l = append(l, "1"+strings.Repeat("0", digits-1), strings.Repeat("9", digits), "2"+strings.Repeat("5", digits-1))
	}
	l = append(l, "18446744073709551616", "18446744073709551617", "18446744073709551620", "19000000000000000000", "99999999999999999999", "1"+strings.Repeat("0", 1<<16))
	for _, s := range l {
		for _, most := range []uint64{0, 1, 5, 9, 10, 1 << 32, math.MaxUint64 - 1, math.MaxUint64} {
			readsNum(t, s, most, 0, api.ErrLong)
		}
	}
}

// TestP12_2_EveryShortText reads every mix of few signs as bytes, as an id and as a number: it is read just where the chapter's words let it be a text.
func TestP12_2_EveryShortText(t *testing.T) {
	signs := []string{"0", "1", "9", "a", "f", "g", "A", "-", "+", " ", "\n", "é", "\xff"}
	for _, s := range texts(signs, 4) {
		if bytesForm.MatchString(s) {
			want, _ := library.DecodeString(strings.TrimPrefix(s, "-"))
			readsBytes(t, s, want)
		} else {
			noBytes(t, s)
		}
		if idForm.MatchString(s) {
			var want api.Id
			b, _ := library.DecodeString(s)
			copy(want[:], b)
			readsId(t, s, want)
		} else {
			noId(t, s)
		}
		if numForm.MatchString(s) {
			n, _ := new(big.Int).SetString(s, 10)
			readsNum(t, s, 9999, n.Uint64(), api.OK)
		} else {
			noNum(t, s)
		}
	}
}

// TestP12_3_ToldIsRead tells bytes, ids and numbers, and reads them as they were.
func TestP12_3_ToldIsRead(t *testing.T) {
	r := rand.New(rand.NewSource(9))
	for _, b := range byteLists(r) {
		readsBytes(t, hex.Text(b), b)
	}
	for _, x := range ids(r) {
		readsId(t, hex.IdText(x), x)
	}
	for _, n := range numbers(r) {
		readsNum(t, hex.Num(n), n, n, api.OK)
		readsNum(t, hex.Num(n), math.MaxUint64, n, api.OK)
	}
	for range 2000 {
		var x api.Id
		copy(x[:], drawn(r, r.Intn(idBytes+1)))
		readsId(t, hex.IdText(x), x)
		n := r.Uint64() >> r.Intn(64)
		readsNum(t, hex.Num(n), n, n, api.OK)
	}
}

// TestP12_3_ReadIsTold reads texts, drawn ones and every mix of few signs: what is read is told as that text.
func TestP12_3_ReadIsTold(t *testing.T) {
	r := rand.New(rand.NewSource(10))
	l := texts([]string{"0", "1", "9", "a", "f", "A", "-", "é"}, 5)
	for range 20000 {
		s := make([]byte, r.Intn(70))
		for i := range s {
			s[i] = "0000123456789abcdefA-"[r.Intn(4+r.Intn(18))]
		}
		l = append(l, string(s))
	}
	read := 0
	for _, s := range l {
		if b, e := hex.Bytes(s); e == api.OK {
			read++
			if told := hex.Text(b); told != s {
				t.Errorf("%q is read as %v, which is told as %q", s, b, told)
			}
		}
		if x, e := hex.IdOf(s); e == api.OK {
			read++
			if told := hex.IdText(x); told != s {
				t.Errorf("%q is read as the id %v, which is told as %q", s, x, told)
			}
		}
		if n, e := hex.NumOf(s, math.MaxUint64); e == api.OK {
			read++
			if told := hex.Num(n); told != s {
				t.Errorf("%q is read as the number %d, which is told as %q", s, n, told)
			}
		}
	}
	if read < 1000 {
		t.Errorf("just %d were read", read)
	}
}

// TestP12_3_UnlikeAreToldUnlike tells every id of few bytes that are not 0, and all bytes of few: no two have one text.
func TestP12_3_UnlikeAreToldUnlike(t *testing.T) {
	told := map[string]api.Id{}
	for a := range 256 {
		for _, b := range []byte{0, 1, 16, 255} {
			for _, at := range []int{1, 2, 31} {
				x := api.Id{byte(a)}
				x[at] = b
				s := hex.IdText(x)
				if was, ok := told[s]; ok && was != x {
					t.Errorf("%v and %v are told as %q", was, x, s)
				}
				told[s] = x
			}
		}
	}
	lists := map[string][]byte{}
	for _, b := range [][]byte{nil, {0}, {0, 0}, {0, 0, 0}, {1}, {16}, {0, 1}, {1, 0}, {16, 0}, {0, 16}} {
		s := hex.Text(b)
		if was, ok := lists[s]; ok && !slices.Equal(was, b) {
			t.Errorf("%v and %v are told as %q", was, b, s)
		}
		lists[s] = b
	}
}
