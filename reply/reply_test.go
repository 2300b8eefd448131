package reply_test

import (
	"bytes"
	"encoding/binary"
	"fmt"
	"math"
	"math/rand"
	"regexp"
	"slices"
	"strconv"
	"strings"
	"testing"

	"mirador/api"
	"mirador/reader"
	"mirador/reply"
)

// What the chapter says, as numbers and names of the test's own.
const (
	size     = 22
	kindsTo  = 6
	errsTo   = 20
	greatest = math.MaxUint32
)

// kindTexts and errTexts are the chapter's names, each in the place of its number.
var (
	kindTexts = strings.Split("none, open, upload, ask, close, connect, disconnect", ", ")
	errTexts  = strings.Split("ok, arg, short, long, form, none, twice, nil, seal, sum, state, halted, session, expired, seq, quota, many, disk, down, parent, deep", ", ")
)

// otherNumbers are some below 0, the first ones above the names' last ones, some far above, and such as are a name's when they are cut to a byte, to two or to four.
var otherNumbers = []int{-1, -2, -6, -7, -20, -21, -128, -255, -256, 2 - 256, 6 - 256, 20 - 256, 1 - 65536, -1 << 31, -1<<32 + 3, 21, 22, 31, 32, 64, 100, 127, 128, 254, 255, 256, 257, 256 + 6, 256 + 7, 256 + 20, 256 + 21, 512, 65536, 65536 + 1, 65536 + 20, 1 << 31, 1 << 32, 1<<32 + 1, 1<<32 + 6, 1<<32 + 20, 1 << 62, math.MaxInt, math.MaxInt - 1, math.MinInt, math.MinInt + 1, math.MinInt + 6}

// nums are numbers of four bytes: the least, the greatest, and some between.
var nums = []uint32{0, 1, 2, 9, 10, 100, 255, 256, 65535, 65536, 0x01020304, 999999999, 1000000000, math.MaxInt32, math.MaxInt32 + 1, greatest - 1, greatest}

// lineForm is what a line looks like, by the chapter's words; its numbers may still be too great.
var lineForm = regexp.MustCompile(`\A(` + strings.Join(kindTexts, "|") + `) (ok( (0|[1-9][0-9]*)){5}|(` + strings.Join(errTexts[1:], "|") + `))\z`)

// kinds are those that a reply may have.
func kinds() []api.Kind {
	var l []api.Kind
	for k := range api.Kind(kindsTo + 1) {
		l = append(l, k)
	}
	return l
}

// errs are those that a reply may have.
func errs() []api.Errno {
	var l []api.Errno
	for e := range api.Errno(errsTo + 1) {
		l = append(l, e)
	}
	return l
}

// otherKinds are some that a reply may not have.
func otherKinds() []api.Kind {
	var l []api.Kind
	for k := kindsTo + 1; k <= errsTo; k++ { // they are errors
		l = append(l, api.Kind(k))
	}
	for _, n := range otherNumbers {
		l = append(l, api.Kind(n))
	}
	return l
}

// otherErrs are some that a reply may not have.
func otherErrs() []api.Errno {
	var l []api.Errno
	for _, n := range otherNumbers {
		l = append(l, api.Errno(n))
	}
	return l
}

// brief is a thing's text, cut where it is long.
func brief(x any) string {
	s := fmt.Sprintf("%q", fmt.Sprint(x))
	return s[:min(len(s), 200)]
}

// numbersOf are a reply's numbers in the chapter's order.
func numbersOf(r api.Reply) []uint32 {
	return []uint32{r.Session, r.Seq, r.Quota, r.Used, r.Expiry}
}

// with is a reply with these numbers.
func with(k api.Kind, e api.Errno, l ...uint32) api.Reply {
	return api.Reply{Kind: k, Err: e, Session: l[0], Seq: l[1], Quota: l[2], Used: l[3], Expiry: l[4]}
}

// mayBe is what the chapter's words ask of a reply.
func mayBe(r api.Reply) bool {
	if r.Kind < 0 || r.Kind > kindsTo || r.Err < 0 || r.Err > errsTo {
		return false
	}
	return r.Err == 0 || r.Session == 0 && r.Seq == 0 && r.Quota == 0 && r.Used == 0 && r.Expiry == 0
}

// bytesOf are a reply's bytes by the chapter's words, also of one that may not be (as far as its kind and error are bytes).
func bytesOf(r api.Reply) []byte {
	b := []byte{byte(r.Kind), byte(r.Err)}
	for _, n := range numbersOf(r) {
		b = binary.BigEndian.AppendUint32(b, n)
	}
	return b
}

// lineOf is a reply's line by the chapter's words.
func lineOf(r api.Reply) string {
	if !mayBe(r) {
		return ""
	}
	s := kindTexts[r.Kind] + " " + errTexts[r.Err]
	if r.Err == 0 {
		s += fmt.Sprintf(" %d %d %d %d %d", r.Session, r.Seq, r.Quota, r.Used, r.Expiry)
	}
	return s
}

// readOf reads a reply's bytes by the chapter's words.
func readOf(b []byte) (api.Reply, api.Errno) {
	if len(b) < size {
		return api.Reply{}, api.ErrShort
	}
	if len(b) > size {
		return api.Reply{}, api.ErrLong
	}
	var l []uint32
	for at := 2; at < size; at += 4 {
		l = append(l, binary.BigEndian.Uint32(b[at:]))
	}
	r := with(api.Kind(b[0]), api.Errno(b[1]), l...)
	if !mayBe(r) {
		return api.Reply{}, api.ErrForm
	}
	return r, api.OK
}

// parsed reads a line by the chapter's words.
func parsed(s string) (api.Reply, api.Errno) {
	if !lineForm.MatchString(s) {
		return api.Reply{}, api.ErrForm
	}
	words := strings.Split(s, " ")
	r := api.Reply{Kind: api.Kind(slices.Index(kindTexts, words[0])), Err: api.Errno(slices.Index(errTexts, words[1]))}
	if r.Err != 0 {
		return r, api.OK
	}
	var l []uint32
	for _, word := range words[2:] {
		n, err := strconv.ParseUint(word, 10, 32)
		if err != nil {
			return api.Reply{}, api.ErrForm
		}
		l = append(l, uint32(n))
	}
	return with(r.Kind, r.Err, l...), api.OK
}

// judged holds that a reply is what the chapter's words say: it may be, and has its bytes and its line, or it may not.
func judged(t *testing.T, r api.Reply) {
	t.Helper()
	may := mayBe(r)
	if reply.Right(r) != may {
		t.Errorf("Right of %v: %v", r, !may)
	}
	b, e := reply.Encode(r)
	switch {
	case may && (e != api.OK || !bytes.Equal(b, bytesOf(r))):
		t.Errorf("Encode of %v: %v, %d; not %v", r, b, e, bytesOf(r))
	case !may && (e != api.ErrArg || len(b) != 0):
		t.Errorf("Encode of %v: %v, %d", r, b, e)
	}
	if s := reply.Line(r); s != lineOf(r) {
		t.Errorf("Line of %v: %q; not %q", r, s, lineOf(r))
	}
}

// decodes holds that these are the bytes of this reply.
func decodes(t *testing.T, b []byte, want api.Reply) {
	t.Helper()
	if r, e := reply.Decode(b); e != api.OK || r != want {
		t.Errorf("Decode of %v: %v, %d; not %v", b, r, e, want)
	}
}

// refuses holds that bytes are none's: this error, and no reply.
func refuses(t *testing.T, b []byte, want api.Errno) {
	t.Helper()
	if r, e := reply.Decode(b); e != want || r != (api.Reply{}) {
		t.Errorf("Decode of %d bytes, %s: %v, %d; not %d", len(b), brief(b), r, e, want)
	}
}

// reads holds that Decode tells what the chapter's words do, and what follows of it.
func reads(t *testing.T, b []byte) {
	t.Helper()
	want, err := readOf(b)
	if err != api.OK {
		refuses(t, b, err)
		return
	}
	decodes(t, b, want)
	r, _ := reply.Decode(b)
	if again, e := reply.Encode(r); !reply.Right(r) || e != api.OK || !bytes.Equal(again, b) {
		t.Errorf("Decode of %v, encoded again: %v, %d, Right %v", b, again, e, reply.Right(r))
	}
}

// parses holds that Parse tells what the chapter's words do, and what follows of it.
func parses(t *testing.T, s string) {
	t.Helper()
	want, err := parsed(s)
	r, e := reply.Parse(s)
	if e != err || r != want {
		t.Errorf("Parse of %s: %v, %d; not %v, %d", brief(s), r, e, want, err)
	}
	if e == api.OK && (reply.Line(r) != s || !reply.Right(r)) {
		t.Errorf("Parse of %s, told again: %q, Right %v", brief(s), reply.Line(r), reply.Right(r))
	}
}

// noLine holds that a text is none's line.
func noLine(t *testing.T, s string) {
	t.Helper()
	if r, e := reply.Parse(s); e != api.ErrForm || r != (api.Reply{}) {
		t.Errorf("Parse of %s: %v, %d", brief(s), r, e)
	}
}

// number is a number of four bytes, a small one as often as a great one.
func number(r *rand.Rand) uint32 { return r.Uint32() >> r.Intn(33) }

// drawn is a reply that may be.
func drawn(r *rand.Rand) api.Reply {
	k := api.Kind(r.Intn(kindsTo + 1))
	if r.Intn(2) == 0 {
		return api.Reply{Kind: k, Err: api.Errno(r.Intn(errsTo + 1))}
	}
	return with(k, 0, number(r), number(r), number(r), number(r), number(r))
}

// some are replies that may be: of each kind with each error, and with each number at many sizes.
func some() []api.Reply {
	var l []api.Reply
	for _, k := range kinds() {
		for _, e := range errs() {
			l = append(l, api.Reply{Kind: k, Err: e})
		}
		for _, n := range nums {
			for at := range 5 {
				own := make([]uint32, 5)
				own[at] = n
				l = append(l, with(k, 0, own...))
			}
			l = append(l, with(k, 0, n, ^n, n, ^n, n), with(k, 0, 1, n, 3, n, 5), with(k, 0, n, n, n, n, n))
		}
	}
	return l
}

// changed is bytes with one of them made another.
func changed(b []byte, at int, to byte) []byte {
	b = bytes.Clone(b)
	b[at] = to
	return b
}

// joined are bytes with others behind them, in new memory.
func joined(b []byte, behind ...byte) []byte { return append(bytes.Clone(b), behind...) }

// TestP15_1_Example holds the reply of the chapter's example, and its bytes written out.
func TestP15_1_Example(t *testing.T) {
	for _, known := range []struct {
		r api.Reply
		b []byte
	}{
		{api.Reply{Kind: api.Upload, Session: 3, Seq: 1, Quota: 5, Used: 2, Expiry: 100}, []byte{2, 0, 0, 0, 0, 3, 0, 0, 0, 1, 0, 0, 0, 5, 0, 0, 0, 2, 0, 0, 0, 100}},
		{api.Reply{Kind: api.Upload, Err: api.ErrExpired}, append([]byte{2, 13}, make([]byte, 20)...)},
		{api.Reply{}, make([]byte, 22)},
		{api.Reply{Kind: api.Disconnect, Err: api.ErrDeep}, append([]byte{6, 20}, make([]byte, 20)...)},
		{api.Reply{Kind: api.Open, Session: 0x01020304, Seq: 0x05060708, Quota: 0x090a0b0c, Used: 0x0d0e0f10, Expiry: 0x11121314}, []byte{1, 0, 1, 2, 3, 4, 5, 6, 7, 8, 9, 10, 11, 12, 13, 14, 15, 16, 17, 18, 19, 20}},
		{api.Reply{Kind: api.Close, Session: greatest, Seq: greatest, Quota: greatest, Used: greatest, Expiry: greatest}, append([]byte{4, 0}, bytes.Repeat([]byte{255}, 20)...)},
	} {
		if b, e := reply.Encode(known.r); e != api.OK || !bytes.Equal(b, known.b) || !reply.Right(known.r) {
			t.Errorf("Encode of %v: %v, %d; not %v", known.r, b, e, known.b)
		}
		decodes(t, known.b, known.r)
	}
}

// TestP15_1_KindsAndErrors holds replies of each kind with each error, and of others, with no number and with some.
func TestP15_1_KindsAndErrors(t *testing.T) {
	for _, k := range append(kinds(), otherKinds()...) {
		for _, e := range append(errs(), otherErrs()...) {
			judged(t, api.Reply{Kind: k, Err: e})
			judged(t, api.Reply{Kind: k, Err: e, Session: 1})
			judged(t, api.Reply{Kind: k, Err: e, Expiry: 1})
			judged(t, with(k, e, 3, 1, 5, 2, 100))
		}
	}
	for n := -600; n <= 600; n++ {
		judged(t, api.Reply{Kind: api.Kind(n)})
		judged(t, api.Reply{Err: api.Errno(n)})
		judged(t, api.Reply{Kind: 6, Err: api.Errno(n)})
		judged(t, api.Reply{Kind: api.Kind(n), Err: 20})
		judged(t, api.Reply{Kind: api.Kind(n), Err: api.Errno(n)})
	}
}

// TestP15_1_Numbers holds each number at 0, at the greatest that it has, and between: with the Err OK it may be, with another one just 0.
func TestP15_1_Numbers(t *testing.T) {
	for _, k := range append(kinds(), otherKinds()...) {
		for _, e := range append(errs(), otherErrs()...) {
			for _, n := range nums {
				judged(t, api.Reply{Kind: k, Err: e, Session: n})
				judged(t, api.Reply{Kind: k, Err: e, Seq: n})
				judged(t, api.Reply{Kind: k, Err: e, Quota: n})
				judged(t, api.Reply{Kind: k, Err: e, Used: n})
				judged(t, api.Reply{Kind: k, Err: e, Expiry: n})
				judged(t, with(k, e, n, ^n, n, ^n, n))
			}
		}
	}
	for bit := range 32 {
		for at := range 5 {
			own := make([]uint32, 5)
			own[at] = 1 << bit
			for _, e := range errs() {
				judged(t, with(api.Ask, e, own...))
			}
		}
	}
}

// TestP15_1_EveryMix holds all mixes of numbers that are 0 or the greatest.
func TestP15_1_EveryMix(t *testing.T) {
	for mix := range 32 {
		own := make([]uint32, 5)
		for at := range own {
			if mix>>at&1 == 1 {
				own[at] = greatest
			}
		}
		for _, k := range kinds() {
			for _, e := range errs() {
				judged(t, with(k, e, own...))
				reads(t, bytesOf(with(k, e, own...)))
			}
		}
	}
}

// TestP15_1_Decode reads what was encoded, each beginning of it, and it with bytes behind.
func TestP15_1_Decode(t *testing.T) {
	for _, r := range some() {
		b := bytesOf(r)
		decodes(t, b, r)
		for end := range b {
			refuses(t, b[:end], api.ErrShort)
		}
		for _, behind := range []int{1, 2, 21, 22, 23, 234, 256, 1 << 16} {
			refuses(t, joined(b, make([]byte, behind)...), api.ErrLong)
		}
		refuses(t, joined(b, b...), api.ErrLong)
		refuses(t, joined(b, 255), api.ErrLong)
	}
	refuses(t, nil, api.ErrShort)
	refuses(t, []byte{}, api.ErrShort)
	refuses(t, make([]byte, 1<<20), api.ErrLong)
}

// TestP15_1_DecodeForm reads every pair of a first and a second byte, with numbers and without.
func TestP15_1_DecodeForm(t *testing.T) {
	for k := range 256 {
		for e := range 256 {
			for _, tail := range [][]byte{make([]byte, 20), bytesOf(with(0, 0, 3, 1, 5, 2, 100))[2:]} {
				b := append([]byte{byte(k), byte(e)}, tail...)
				reads(t, b)
				if k > kindsTo || e > errsTo {
					refuses(t, b, api.ErrForm)
				}
			}
		}
	}
	for _, e := range errs()[1:] { // a number that is not 0, byte for byte
		for at := 2; at < size; at++ {
			for _, to := range []byte{1, 128, 255} {
				for _, k := range kinds() {
					refuses(t, changed(bytesOf(api.Reply{Kind: k, Err: e}), at, to), api.ErrForm)
				}
			}
		}
	}
}

// TestP15_1_FirstFault reads bytes in which two faults stand: the first that the chapter names is told.
func TestP15_1_FirstFault(t *testing.T) {
	for _, bad := range [][]byte{
		append([]byte{7, 0}, make([]byte, 20)...),                 // no such kind
		append([]byte{255, 255}, make([]byte, 20)...),             // no such kind, no such error
		append([]byte{0, 21}, make([]byte, 20)...),                // no such error
		append([]byte{2, 13, 1}, make([]byte, 19)...),             // an error with a number
		append([]byte{6, 20}, append(make([]byte, 19), 1)...),     // an error with a number
		append([]byte{7, 1}, bytes.Repeat([]byte{255}, 20)...),    // no such kind, an error with numbers
		append([]byte{2, 21}, bytes.Repeat([]byte{255}, 20)...),   // no such error, numbers
		append([]byte{200, 200}, bytes.Repeat([]byte{9}, 20)...),  // all at once
		append([]byte{128, 128}, bytes.Repeat([]byte{0}, 20)...),  // below 0, if bytes had signs
		append([]byte{2, 255}, bytes.Repeat([]byte{255}, 20)...),  // below 0, if bytes had signs
		append([]byte{255, 0}, bytes.Repeat([]byte{0, 1}, 10)...), // below 0, if bytes had signs
	} {
		refuses(t, bad, api.ErrForm)
		for end := range bad {
			refuses(t, bad[:end], api.ErrShort)
		}
		for behind := range 30 {
			refuses(t, joined(bad, make([]byte, 1+behind)...), api.ErrLong)
			refuses(t, joined(bad, bytes.Repeat([]byte{255}, 1+behind)...), api.ErrLong)
		}
	}
}

// TestP15_1_DecodeTurned reads bytes of replies in which one byte was made another, was left out, or was put in, and drawn bytes.
func TestP15_1_DecodeTurned(t *testing.T) {
	d := rand.New(rand.NewSource(1))
	for range 300 {
		b := bytesOf(drawn(d))
		for at := range b {
			for _, to := range []byte{0, 1, b[at] - 1, b[at] + 1, b[at] ^ 128, 6, 7, 20, 21, 255} {
				reads(t, changed(b, at, to))
			}
			reads(t, slices.Delete(bytes.Clone(b), at, at+1))
			reads(t, slices.Insert(bytes.Clone(b), at, byte(d.Intn(256))))
		}
	}
	for range 20000 {
		b := make([]byte, size-2+d.Intn(5))
		d.Read(b)
		b[0] %= 9
		b[1] %= 25
		if d.Intn(2) == 0 {
			clear(b[2:])
		}
		reads(t, b)
	}
}

// TestP15_1_Unchanged holds that bytes that were handed in are as they were, their spare room too, and that answers are new memory.
func TestP15_1_Unchanged(t *testing.T) {
	for _, r := range append(some(), api.Reply{Kind: 7}, api.Reply{Err: 3, Used: 1}) {
		for _, end := range []int{0, 1, size - 1, size, size + 1, size + 30} {
			all := append(bytesOf(r), bytes.Repeat([]byte{8}, 50)...)
			was := bytes.Clone(all)
			got, e := reply.Decode(all[:end])
			if !bytes.Equal(all, was) {
				t.Errorf("Decode changed bytes of %v", r)
			}
			clear(all)
			if e == api.OK && got != r {
				t.Errorf("the reply goes on with the bytes: %v, not %v", got, r)
			}
		}
	}
	for _, r := range some() {
		b, _ := reply.Encode(r)
		again, _ := reply.Encode(r)
		all := b[:cap(b)]
		for i := range all {
			all[i] ^= 0xa5
		}
		third, _ := reply.Encode(r)
		if !bytes.Equal(again, bytesOf(r)) || !bytes.Equal(third, bytesOf(r)) {
			t.Errorf("two answers of Encode share memory: %v, %v", again, third)
		}
	}
}

// TestP15_2_Example holds the chapter's examples, and lines that are written out.
func TestP15_2_Example(t *testing.T) {
	for _, known := range []struct {
		r    api.Reply
		line string
	}{
		{api.Reply{Kind: api.Upload, Session: 3, Seq: 1, Quota: 5, Used: 2, Expiry: 100}, "upload ok 3 1 5 2 100"},
		{api.Reply{Kind: api.Upload, Err: api.ErrExpired}, "upload expired"},
		{api.Reply{}, "none ok 0 0 0 0 0"},
		{api.Reply{Err: api.ErrNone}, "none none"},
		{api.Reply{Kind: api.Open, Err: api.ErrMany}, "open many"},
		{api.Reply{Kind: api.Ask, Err: api.ErrSession}, "ask session"},
		{api.Reply{Kind: api.Close, Session: greatest, Seq: 10, Quota: 1000000000, Used: 0, Expiry: greatest}, "close ok 4294967295 10 1000000000 0 4294967295"},
		{api.Reply{Kind: api.Connect, Err: api.ErrParent}, "connect parent"},
		{api.Reply{Kind: api.Disconnect, Err: api.ErrDeep}, "disconnect deep"},
	} {
		if s := reply.Line(known.r); s != known.line {
			t.Errorf("Line of %v: %q; not %q", known.r, s, known.line)
		}
		if r, e := reply.Parse(known.line); e != api.OK || r != known.r {
			t.Errorf("Parse of %q: %v, %d; not %v", known.line, r, e, known.r)
		}
	}
}

// TestP15_2_Lines reads the line of each reply that may be, and those of the chapter's names with each number.
func TestP15_2_Lines(t *testing.T) {
	for _, r := range some() {
		if got, e := reply.Parse(lineOf(r)); e != api.OK || got != r {
			t.Errorf("Parse of %q: %v, %d; not %v", lineOf(r), got, e, r)
		}
		parses(t, lineOf(r))
	}
	for _, r := range []api.Reply{{Kind: 7}, {Kind: -1}, {Err: 21}, {Err: -1}, {Err: 1, Session: 1}, {Err: 20, Expiry: 1}, {Kind: 256}, {Err: 256}, with(2, 13, 3, 1, 5, 2, 100)} {
		if s := reply.Line(r); s != "" {
			t.Errorf("Line of %v, which may not be: %q", r, s)
		}
	}
}

// badNames are names that there are not: beginnings and ends of others, others put together, in capitals, with signs ahead and behind, none at all, numbers, and ?.
func badNames() []string {
	l := []string{"", "?", "??", "-", "0", "1", "20", "x", "nothing", "Ok", "OK", "oK", "okk", "o", "k", "err", "errarg", "ErrArg", "error", "opens", "pen", "op", "uploads", "up", "load", "clo", "lose", "closed", "con", "discon", "dis", "disc", "connected", "disconnects", "in", "ok\x00", "\x00ok", "ok\n", "\tok", "\u043ek", "ok\xff", "\xff", "none?", "?ok", "ok?", "ok,", "arg.", "nokind", "NoKind"}
	for _, name := range slices.Concat(kindTexts, errTexts) {
		for end := range name {
			l = append(l, name[:end], name[len(name)-end:], name[:end]+"?"+name[end+1:], name[:end]+name[end+1:])
		}
		l = append(l, strings.ToUpper(name), strings.ToUpper(name[:1])+name[1:], name+name, name+"s", "x"+name, name+"\n", name+"\x00", name+"\u00a0", strings.Repeat(name, 1000))
	}
	for _, name := range kindTexts {
		for _, other := range errTexts {
			l = append(l, name+other, other+name)
		}
	}
	return l
}

// TestP15_2_Names reads lines with a name that there is not, and with names in each other's place.
func TestP15_2_Names(t *testing.T) {
	for _, name := range badNames() {
		for _, s := range []string{name, name + " ok 3 1 5 2 100", name + " many", "upload " + name, "upload " + name + " 3 1 5 2 100", "upload " + name + " 0 0 0 0 0", name + " " + name, name + " " + name + " 0 0 0 0 0"} {
			parses(t, s)
		}
		if !slices.Contains(kindTexts, name) {
			noLine(t, name+" ok 3 1 5 2 100")
			noLine(t, name+" many")
		}
		if !slices.Contains(errTexts, name) {
			noLine(t, "upload "+name)
			noLine(t, "upload "+name+" 3 1 5 2 100")
			noLine(t, "none "+name+" 0 0 0 0 0")
		}
	}
	all := slices.Concat(kindTexts, errTexts)
	for _, name := range all {
		noLine(t, name)
		for _, other := range all {
			parses(t, name+" "+other)
			parses(t, name+" "+other+" 0 0 0 0 0")
			parses(t, name+" "+other+" 3 1 5 2 100")
			parses(t, name+" "+other+" ok")
		}
	}
}

// TestP15_2_Blanks reads lines with a blank ahead, behind, twice or left out, and with another sign in a blank's place.
func TestP15_2_Blanks(t *testing.T) {
	for _, line := range []string{"upload ok 3 1 5 2 100", "none ok 0 0 0 0 0", "open many", "none none", "disconnect ok 4294967295 4294967295 4294967295 4294967295 4294967295"} {
		for _, sign := range []string{" ", "  ", "\t", "\n", "\r\n", "\x00", "\v", "\f", "\u00a0", "\u2003", ",", "-", "."} {
			noLine(t, sign+line)
			noLine(t, line+sign)
			for at := range line {
				if line[at] != ' ' {
					continue
				}
				noLine(t, line[:at]+" "+sign+line[at+1:])
				noLine(t, line[:at]+sign+" "+line[at+1:])
				if sign != " " {
					noLine(t, line[:at]+sign+line[at+1:])
				}
			}
		}
		for at := range line {
			if line[at] == ' ' {
				noLine(t, line[:at]+line[at+1:])
			}
		}
	}
}

// TestP15_2_HowManyWords reads lines with too few words and too many, the Err OK without numbers and others with them.
func TestP15_2_HowManyWords(t *testing.T) {
	noLine(t, "")
	noLine(t, " ")
	for n := range 20 {
		noLine(t, strings.Repeat(" ", n))
		tail := strings.Repeat(" 0", n)
		for _, k := range kindTexts {
			noLine(t, k+tail)
			if n != 5 {
				noLine(t, k+" ok"+tail)
				noLine(t, k+" ok"+strings.Repeat(" 7", n))
			}
			for _, e := range errTexts[1:] {
				parses(t, k+" "+e+tail)
				if n > 0 {
					noLine(t, k+" "+e+tail)
					noLine(t, k+" "+e+strings.Repeat(" 7", n))
					noLine(t, k+" "+e+strings.Repeat(" ", n))
				}
			}
		}
		noLine(t, tail)
	}
	noLine(t, "upload ok 3 1 5 2 100 upload ok 3 1 5 2 100")
	noLine(t, "upload ok 3 1 5 2 100\nupload ok 3 1 5 2 100")
	noLine(t, "upload ok 3 1 5 2 100 0")
	noLine(t, "upload ok 3 1 5 2 100"+strings.Repeat(" 0", 1<<16))
	noLine(t, "upload ok"+strings.Repeat(" ", 1<<20))
	noLine(t, "upload many"+strings.Repeat(" ", 1<<20))
	noLine(t, strings.Repeat("upload ", 1<<16))
}

// TestP15_2_NumbersInLines reads lines in which one word is each of many texts, some of them a number.
func TestP15_2_NumbersInLines(t *testing.T) {
	texts := []string{"", "-", "x", "a", "ok", "none", "0", "00", "000", "01", "001", "0x1", "1x", "x1", "1a", "1.0", "1e3", "1_000", "1,000", "+1", "-1", "+0", "-0", "+", "--1", "\t1", "1\t", "1\n", "\n1", "\x001", "1\x00", "\u0663", "\u00b3", "\uff13", "1\xff", "4294967295", "4294967294", "4294967296", "4294967297", "4294967299", "04294967295", "+4294967295", "5000000000", "8589934592", "9999999999", "10000000000", "42949672950", "18446744073709551615", "18446744073709551616", "18446744073709551617", "340282366920938463463374607431768211456", strings.Repeat("9", 1000), strings.Repeat("0", 1000), "1" + strings.Repeat("0", 1000)}
	for _, n := range nums {
		texts = append(texts, strconv.FormatUint(uint64(n), 10), "0"+strconv.FormatUint(uint64(n), 10))
	}
	for at := range 5 {
		for _, text := range texts {
			for _, k := range kindTexts {
				words := []string{"3", "1", "5", "2", "100"}
				words[at] = text
				parses(t, k+" ok "+strings.Join(words, " "))
			}
			words := []string{"0", "0", "0", "0", "0"}
			words[at] = text
			parses(t, "none ok "+strings.Join(words, " "))
			noLine(t, "none many "+strings.Join(words, " "))
		}
	}
	most := "close ok 4294967295 4294967295 4294967295 4294967295 4294967295"
	if r, e := reply.Parse(most); e != api.OK || r != with(api.Close, 0, greatest, greatest, greatest, greatest, greatest) {
		t.Errorf("Parse of %q: %v, %d", most, r, e)
	}
	for at := range 5 {
		words := strings.Split(most, " ")
		words[2+at] = "4294967296"
		noLine(t, strings.Join(words, " "))
	}
}

// TestP15_2_ParseTurned reads lines in which one sign was made another, was left out, or was put in, or two words changed places.
func TestP15_2_ParseTurned(t *testing.T) {
	d := rand.New(rand.NewSource(2))
	signs := []string{" ", "0", "1", "9", "a", "o", "k", "n", "e", "?", "+", "-", "\n", "\xff", "K"}
	for range 1500 {
		s := lineOf(drawn(d))
		at := d.Intn(len(s))
		for _, sign := range signs {
			parses(t, s[:at]+sign+s[at:])
			parses(t, s[:at]+sign+s[at+1:])
			parses(t, s+sign)
			parses(t, sign+s)
		}
		parses(t, s[:at]+s[at+1:])
		parses(t, s[:at])
		parses(t, s[at:])
		words := strings.Split(s, " ")
		i, j := d.Intn(len(words)), d.Intn(len(words))
		words[i], words[j] = words[j], words[i]
		parses(t, strings.Join(words, " "))
		parses(t, strings.Join(slices.Delete(words, i, i+1), " "))
	}
}

// TestP15_3_Names holds each name, written out with api's names of the numbers, there and back.
func TestP15_3_Names(t *testing.T) {
	known := map[api.Errno]string{api.OK: "ok", api.ErrArg: "arg", api.ErrShort: "short", api.ErrLong: "long", api.ErrForm: "form", api.ErrNone: "none", api.ErrTwice: "twice", api.ErrNil: "nil", api.ErrSeal: "seal", api.ErrSum: "sum", api.ErrState: "state", api.ErrHalted: "halted", api.ErrSession: "session", api.ErrExpired: "expired", api.ErrSeq: "seq", api.ErrQuota: "quota", api.ErrMany: "many", api.ErrDisk: "disk", api.ErrDown: "down", api.ErrParent: "parent", api.ErrDeep: "deep"}
	for _, e := range errs() {
		if reply.ErrName(e) != known[e] || reply.ErrName(e) != errTexts[e] {
			t.Errorf("ErrName of %d: %q", e, reply.ErrName(e))
		}
		if got, ok := reply.ErrOf(known[e]); got != e || !ok {
			t.Errorf("ErrOf of %q: %d, %v", known[e], got, ok)
		}
	}
	kindsKnown := map[api.Kind]string{api.NoKind: "none", api.Open: "open", api.Upload: "upload", api.Ask: "ask", api.Close: "close", api.Connect: "connect", api.Disconnect: "disconnect"}
	for _, k := range kinds() {
		if reply.KindName(k) != kindsKnown[k] || reply.KindName(k) != kindTexts[k] {
			t.Errorf("KindName of %d: %q", k, reply.KindName(k))
		}
		if got, ok := reply.KindOf(kindsKnown[k]); got != k || !ok {
			t.Errorf("KindOf of %q: %d, %v", kindsKnown[k], got, ok)
		}
	}
}

// TestP15_3_NoSuchNumbers holds that what is no error's number, and no kind's, has no name.
func TestP15_3_NoSuchNumbers(t *testing.T) {
	for _, e := range otherErrs() {
		if s := reply.ErrName(e); s != "?" {
			t.Errorf("ErrName of %d: %q", e, s)
		}
	}
	for _, k := range otherKinds() {
		if s := reply.KindName(k); s != "?" {
			t.Errorf("KindName of %d: %q", k, s)
		}
	}
	for n := -70000; n <= 70000; n++ {
		if s := reply.ErrName(api.Errno(n)); (s == "?") == (n >= 0 && n <= errsTo) {
			t.Errorf("ErrName of %d: %q", n, s)
		}
		if s := reply.KindName(api.Kind(n)); (s == "?") == (n >= 0 && n <= kindsTo) {
			t.Errorf("KindName of %d: %q", n, s)
		}
	}
}

// TestP15_3_NoSuchNames holds that other texts are no names: 0, and false. Those of errors are none of kinds, but for none, and the other way round.
func TestP15_3_NoSuchNames(t *testing.T) {
	texts := append(badNames(), slices.Concat(kindTexts, errTexts)...)
	for _, name := range texts {
		want := slices.Index(errTexts, name)
		if e, ok := reply.ErrOf(name); ok != (want >= 0) || e != api.Errno(max(want, 0)) {
			t.Errorf("ErrOf of %s: %d, %v", brief(name), e, ok)
		}
		want = slices.Index(kindTexts, name)
		if k, ok := reply.KindOf(name); ok != (want >= 0) || k != api.Kind(max(want, 0)) {
			t.Errorf("KindOf of %s: %d, %v", brief(name), k, ok)
		}
	}
	for _, name := range []string{"", "?", "open", "disconnect", "OK"} {
		if e, ok := reply.ErrOf(name); e != 0 || ok {
			t.Errorf("ErrOf of %q: %d, %v", name, e, ok)
		}
	}
	for _, name := range []string{"", "?", "ok", "many", "None"} {
		if k, ok := reply.KindOf(name); k != 0 || ok {
			t.Errorf("KindOf of %q: %d, %v", name, k, ok)
		}
	}
}

// TestP15_4_ThereAndBack holds that what was encoded is decoded, that what is told in a line is read, and that both lead back.
func TestP15_4_ThereAndBack(t *testing.T) {
	d := rand.New(rand.NewSource(4))
	l := some()
	for range 20000 {
		l = append(l, drawn(d))
	}
	for _, r := range l {
		b, e := reply.Encode(r)
		if e != api.OK || len(b) != size {
			t.Fatalf("Encode of %v: %v, %d", r, b, e)
		}
		if got, e := reply.Decode(b); e != api.OK || got != r {
			t.Errorf("%v came back from its bytes as %v, %d", r, got, e)
		}
		s := reply.Line(r)
		if got, e := reply.Parse(s); e != api.OK || got != r {
			t.Errorf("%v came back from its line %q as %v, %d", r, s, got, e)
		}
		reads(t, b)
		parses(t, s)
	}
}

// TestP15_4_NamesLeadBack holds that a name leads to its number, and the number to its name, and that no two share one.
func TestP15_4_NamesLeadBack(t *testing.T) {
	met := map[string]bool{}
	for _, e := range errs() {
		name := reply.ErrName(e)
		if got, ok := reply.ErrOf(name); got != e || !ok || met[name] {
			t.Errorf("the error %d, named %q, is %d, %v", e, name, got, ok)
		}
		met[name] = true
	}
	clear(met)
	for _, k := range kinds() {
		name := reply.KindName(k)
		if got, ok := reply.KindOf(name); got != k || !ok || met[name] {
			t.Errorf("the kind %d, named %q, is %d, %v", k, name, got, ok)
		}
		met[name] = true
	}
}

// TestP15_4_OneReplyOneText holds that two replies have the same bytes, or the same line, just if they are the same.
func TestP15_4_OneReplyOneText(t *testing.T) {
	ofBytes, ofLine := map[string]api.Reply{}, map[string]api.Reply{}
	for _, r := range some() {
		b, _ := reply.Encode(r)
		if other, ok := ofBytes[string(b)]; ok && other != r {
			t.Errorf("%v and %v have the same bytes", r, other)
		}
		s := reply.Line(r)
		if other, ok := ofLine[s]; ok && other != r {
			t.Errorf("%v and %v have the line %q", r, other, s)
		}
		ofBytes[string(b)], ofLine[s] = r, r
	}
}

// TestP15_4_AsTheReaderReads holds that the bytes are such as a reader reads, field by field.
func TestP15_4_AsTheReaderReads(t *testing.T) {
	x := with(api.Disconnect, 0, greatest, 1<<31, 258, 7, 0x01020304)
	b, _ := reply.Encode(x)
	in := reader.New(b)
	if kind, e := in.Num(1), in.Num(1); kind != 6 || e != 0 {
		t.Errorf("%d, %d", kind, e)
	}
	for i, n := range numbersOf(x) {
		if got := in.Num(4); got != uint64(n) {
			t.Errorf("the number %d: %d; not %d", i, got, n)
		}
	}
	if e := in.Done(); e != api.OK {
		t.Errorf("Done: %d", e)
	}
}
