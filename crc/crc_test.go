package crc_test

import (
	"encoding/binary"
	"hash/crc32"
	"math"
	"slices"
	"strings"
	"testing"

	"mews/crc"
)

// meantByte is what a byte makes of a number, as the document's words say it.
func meantByte(n uint32, b byte) uint32 {
	n ^= uint32(b)
	for range 8 {
		went := n % 2
		n /= 2
		if went == 1 {
			n ^= 0xedb88320
		}
	}
	return n
}

// meantMore is what bytes make of a number, one behind the other.
func meantMore(n uint32, s string) uint32 {
	for _, b := range []byte(s) {
		n = meantByte(n, b)
	}
	return n
}

// meantOf is a text's sum, as Go's library has it.
func meantOf(s string) uint32 { return crc32.ChecksumIEEE([]byte(s)) }

// meantSeal is a text with its sum behind, as Go's library has it.
func meantSeal(s string) string {
	return string(binary.LittleEndian.AppendUint32([]byte(s), meantOf(s)))
}

// rolled gives numbers that look as if they were thrown; of one seed always the same ones.
func rolled(seed uint64) func() uint64 {
	return func() uint64 {
		seed = seed*6364136223846793005 + 1442695040888963407
		return (seed ^ seed>>29) >> 11
	}
}

// thrown is a text of so many rolled bytes.
func thrown(seed uint64, size int) string {
	next := rolled(seed)
	l := make([]byte, size)
	for i := range l {
		l[i] = byte(next())
	}
	return string(l)
}

// numbers are those in which each bit alone is set, those in which it alone is not, those beside, and rolled ones.
func numbers() []uint32 {
	l := []uint32{0, math.MaxUint32, 0x55555555, 0xaaaaaaaa, 0x01234567, 0xedb88320, 0x04c11db7}
	for i := range 32 {
		n := uint32(1) << i
		l = append(l, n, n-1, n+1, ^n, math.MaxUint32<<i)
	}
	next := rolled(14)
	for range 50 {
		l = append(l, uint32(next()))
	}
	return l
}

// ofOne is a text of one byte.
func ofOne(b int) string { return string([]byte{byte(b)}) }

// texts are all of up to so many bytes, made of an alphabet.
func texts(alphabet string, most int) []string {
	all := []string{""}
	last := all
	for range most {
		var next []string
		for _, s := range last {
			for i := range len(alphabet) {
				next = append(next, s+alphabet[i:i+1])
			}
		}
		all = append(all, next...)
		last = next
	}
	return all
}

// ofLengths are texts of each length from 0 on: of bytes 0 alone, of bytes 255 alone, of bytes that rise, and of rolled ones.
func ofLengths(most int) []string {
	var l []string
	for size := range most + 1 {
		rising := make([]byte, size)
		for i := range rising {
			rising[i] = byte(i)
		}
		l = append(l, strings.Repeat("\x00", size), strings.Repeat("\xff", size), string(rising), thrown(uint64(size), size))
	}
	return l
}

// odd are texts whose bytes are no runes, or such as stand for nothing elsewhere.
func odd() []string {
	return []string{"\x00", "\x00\x00", "\n", "\r\n", "a\x00", "\x00a", "\x7f", "\x80", "\xc3", "\xc3\x28", "é", "e\u0301", "\xef\xbf\xbd", "\xff", "\xff\xfe", "\xed\xa0\x80", "\U0001f600", "日本"}
}

// turned is a text in which bits are the other way: those that are set of 32 ones, one behind the other, from a place on; in each byte the lowest one is the first.
func turned(s string, place int, bits uint32) string {
	l := []byte(s)
	for i := range 32 {
		if bits>>i&1 == 1 {
			at := place + i
			l[at/8] ^= 1 << (at % 8)
		}
	}
	return string(l)
}

func wantByte(t *testing.T, n uint32, b byte, want uint32) {
	if got := crc.Byte(n, b); got != want {
		t.Helper()
		t.Fatalf("Byte(%#x, %#x) = %#x; want %#x", n, b, got, want)
	}
}

func wantMore(t *testing.T, n uint32, s string, want uint32) {
	if got := crc.More(n, s); got != want {
		t.Helper()
		t.Fatalf("More(%#x, %.60q) = %#x; want %#x", n, s, got, want)
	}
}

func wantOf(t *testing.T, want uint32, parts ...string) {
	if got := crc.Of(parts...); got != want {
		t.Helper()
		t.Fatalf("Of of %d parts, %.60q = %#x; want %#x", len(parts), parts[:min(len(parts), 8)], got, want)
	}
}

func wantSeal(t *testing.T, s, want string) {
	if got := crc.Seal(s); got != want {
		t.Helper()
		t.Fatalf("Seal(%.60q) = %.80q; want %.80q", s, got, want)
	}
}

func wantFits(t *testing.T, s string, want bool) {
	if got := crc.Fits(s); got != want {
		t.Helper()
		t.Fatalf("Fits(%.80q), of %d bytes: %v; want %v", s, len(s), got, want)
	}
}

// The numbers that stand here were not worked out by this program.
func TestP14_1_BytesByHand(t *testing.T) {
	for _, x := range []struct {
		n    uint32
		b    byte
		want uint32
	}{
		{0, 0, 0},
		{0, 1, 0x77073096},
		{0, 2, 0xee0e612c},
		{0, 3, 0x990951ba},
		{0, 0x10, 0x1db71064},
		{0, 0x20, 0x3b6e20c8},
		{0, 0x40, 0x76dc4190},
		{0, 0x80, 0xedb88320},
		{0, 0xfe, 0x5a05df1b},
		{0, 0xff, 0x2d02ef8d},
		{1, 0, 0x77073096},
		{1, 1, 0},
		{0x80, 0, 0xedb88320},
		{0xff, 0, 0x2d02ef8d},
		{0xff, 0xff, 0},
		{0x100, 0, 1},
		{0x100, 1, 0x77073097},
		{0x8000, 0, 0x80},
		{0x80000000, 0, 0x00800000},
		{0xffffffff, 0xff, 0x00ffffff},
		{0xffffffff, 0, 0x2dfd1072},
		{0xffffff00, 0xff, 0x2dfd1072},
		{0xedb88320, 0x20, 0x00edb883},
	} {
		wantByte(t, x.n, x.b, x.want)
	}
}

func TestP14_1_EachByteOnEachNumber(t *testing.T) {
	for _, n := range numbers() {
		for b := range 256 {
			wantByte(t, n, byte(b), meantByte(n, byte(b)))
		}
	}
}

// The sums that stand here are those that others tell of these texts.
func TestP14_1_SumsByHand(t *testing.T) {
	for _, x := range []struct {
		s    string
		want uint32
	}{
		{"", 0},
		{"\x00", 0xd202ef8d},
		{"\xff", 0xff000000},
		{"a", 0xe8b7be43},
		{"abc", 0x352441c2},
		{"message digest", 0x20159d7f},
		{"abcdefghijklmnopqrstuvwxyz", 0x4c2750bd},
		{"ABCDEFGHIJKLMNOPQRSTUVWXYZabcdefghijklmnopqrstuvwxyz0123456789", 0x1fc2e6d2},
		{strings.Repeat("1234567890", 8), 0x7ca94a72},
		{"The quick brown fox jumps over the lazy dog", 0x414fa339},
		{strings.Repeat("\x00", 4), 0x2144df1c},
		{strings.Repeat("\xff", 4), 0xffffffff},
		{strings.Repeat("\x00", 32), 0x190a55ad},
		{strings.Repeat("\xff", 32), 0xff6cab0b},
		{"\x00\x01\x02\x03\x04\x05\x06\x07\x08\x09\x0a\x0b\x0c\x0d\x0e\x0f\x10\x11\x12\x13\x14\x15\x16\x17\x18\x19\x1a\x1b\x1c\x1d\x1e\x1f", 0x91267e8a},
	} {
		wantOf(t, x.want, x.s)
	}
}

func TestP14_1_TheExample(t *testing.T) {
	wantOf(t, 0xcbf43926, "123456789")
	wantOf(t, 0xcbf43926, "1234", "", "56789")
}

func TestP14_1_TheTextOfNoByte(t *testing.T) {
	wantOf(t, 0)
	wantOf(t, 0, []string{}...)
	wantOf(t, 0, "")
	wantOf(t, 0, "", "", "")
	for _, n := range numbers() {
		wantMore(t, n, "", n)
	}
}

func TestP14_1_AllLengths(t *testing.T) {
	for _, s := range ofLengths(400) {
		wantOf(t, meantOf(s), s)
		wantMore(t, 0, s, meantMore(0, s))
		wantMore(t, math.MaxUint32, s, ^meantOf(s))
	}
}

func TestP14_1_AllShortTexts(t *testing.T) {
	for _, s := range texts("\x00\x01\x80\xff", 6) {
		wantOf(t, meantOf(s), s)
	}
	for _, s := range texts("019AZaz\n", 4) {
		wantOf(t, meantOf(s), s)
	}
	for a := range 256 {
		wantOf(t, meantOf(ofOne(a)), ofOne(a))
		for b := range 256 {
			s := ofOne(a) + ofOne(b)
			wantOf(t, meantOf(s), s)
		}
	}
}

func TestP14_1_EachByteInEachPlace(t *testing.T) {
	base := thrown(1, 40)
	for place := range base {
		for b := range 256 {
			s := base[:place] + ofOne(b) + base[place+1:]
			wantOf(t, meantOf(s), s)
		}
	}
}

func TestP14_1_OddTexts(t *testing.T) {
	for _, a := range odd() {
		wantOf(t, meantOf(a), a)
		for _, b := range odd() {
			wantOf(t, meantOf(a+b), a, b)
		}
	}
}

func TestP14_1_FromEachNumberOn(t *testing.T) {
	for _, n := range numbers() {
		for size := range 20 {
			s := thrown(uint64(n), size)
			wantMore(t, n, s, meantMore(n, s))
		}
	}
}

func TestP14_1_OneByteIsByte(t *testing.T) {
	for _, n := range numbers() {
		for b := range 256 {
			wantMore(t, n, ofOne(b), crc.Byte(n, byte(b)))
		}
	}
}

func TestP14_1_PartsAreOneBehindTheOther(t *testing.T) {
	for _, size := range []int{1, 2, 3, 4, 5, 8, 9, 60, 300} {
		s := thrown(uint64(size), size)
		want := meantOf(s)
		for i := range size + 1 {
			wantOf(t, want, s[:i], s[i:])
			wantOf(t, want, "", s[:i], "", s[i:], "")
			for j := i; j <= min(size, i+70); j++ {
				wantOf(t, want, s[:i], s[i:j], s[j:])
			}
		}
	}
}

func TestP14_1_TheOrderOfParts(t *testing.T) {
	wantOf(t, meantOf("ab"), "a", "b")
	wantOf(t, meantOf("ba"), "b", "a")
	if crc.Of("a", "b") == crc.Of("b", "a") {
		t.Fatal("a and b have the sum of b and a")
	}
}

func TestP14_1_VeryManyParts(t *testing.T) {
	s := thrown(2, 1<<17)
	wantOf(t, meantOf(s), strings.Split(s, "")...)
	wantOf(t, meantOf(s), strings.SplitAfter(s, "\x00")...)
	wantOf(t, 0, make([]string, 1<<17)...)
}

func TestP14_1_AVeryLongText(t *testing.T) {
	s := thrown(3, 1<<24)
	wantOf(t, meantOf(s), s)
	wantOf(t, meantOf(s), s[:1<<23-1], s[1<<23-1:])
	zeros := strings.Repeat("\x00", 1<<24)
	wantOf(t, meantOf(zeros), zeros)
}

func TestP14_1_PartsStayAsTheyWere(t *testing.T) {
	room := []string{"a", "b", "c", "d"}
	wantOf(t, meantOf("ab"), room[:2]...)
	if !slices.Equal(room, []string{"a", "b", "c", "d"}) {
		t.Fatalf("the parts and their spare room are %q", room)
	}
}

func TestP14_1_TheSameAgain(t *testing.T) {
	l := ofLengths(60)
	first := make([]uint32, len(l))
	for i, s := range l {
		first[i] = crc.Of(s)
	}
	for i := len(l) - 1; i >= 0; i-- {
		wantOf(t, first[i], l[i])
	}
}

func TestP14_2_SealsByHand(t *testing.T) {
	for _, x := range []struct{ s, want string }{
		{"", "\x00\x00\x00\x00"},
		{"123456789", "123456789\x26\x39\xf4\xcb"},
		{"a", "a\x43\xbe\xb7\xe8"},
		{"abc", "abc\xc2\x41\x24\x35"},
		{"\x00", "\x00\x8d\xef\x02\xd2"},
		{"\xff", "\xff\x00\x00\x00\xff"},
		{"\x00\x00\x00\x00", "\x00\x00\x00\x00\x1c\xdf\x44\x21"},
		{"\xff\xff\xff\xff", "\xff\xff\xff\xff\xff\xff\xff\xff"},
	} {
		wantSeal(t, x.s, x.want)
		wantFits(t, x.want, true)
	}
}

func TestP14_2_SealsOfAllLengths(t *testing.T) {
	for _, s := range append(ofLengths(300), odd()...) {
		wantSeal(t, s, meantSeal(s))
		wantFits(t, crc.Seal(s), true)
		wantFits(t, crc.Seal(crc.Seal(s)), true)
	}
}

func TestP14_2_AVeryLongSeal(t *testing.T) {
	s := thrown(4, 1<<22)
	sealed := crc.Seal(s)
	wantSeal(t, s, meantSeal(s))
	wantFits(t, sealed, true)
	wantFits(t, sealed[1:], false)
	wantFits(t, sealed[:len(sealed)-1], false)
	wantFits(t, turned(sealed, 0, 1), false)
	wantFits(t, turned(sealed, len(sealed)*8-32, 1<<31), false)
}

func TestP14_2_FewerThanFourBytesFitNothing(t *testing.T) {
	for _, s := range texts("\x00\x01a\x7f\x80\xff", 3) {
		wantFits(t, s, false)
	}
	for a := range 256 {
		wantFits(t, ofOne(a), false)
		for b := range 256 {
			wantFits(t, ofOne(a)+ofOne(b), false)
		}
	}
	for i := range 4 {
		wantFits(t, crc.Seal("")[:i], false)
	}
}

func TestP14_2_FourBytesFitTheTextOfNoByteAlone(t *testing.T) {
	for _, n := range numbers() {
		wantFits(t, string(binary.LittleEndian.AppendUint32(nil, n)), n == 0)
	}
}

func TestP14_2_WhateverStandsThere(t *testing.T) {
	for _, s := range texts("\x00\x01\x8d\xef\x02\xd2\xff", 5) {
		end := len(s) - 4
		wantFits(t, s, end >= 0 && s == meantSeal(s[:max(end, 0)]))
	}
	for _, s := range ofLengths(100) {
		for end := range len(s) + 1 {
			cut := max(end-4, 0)
			wantFits(t, s[:end], s[:end] == meantSeal(s[:cut]))
		}
	}
}

func TestP14_2_EachByteOfASumCounts(t *testing.T) {
	for _, s := range []string{"", "a", "\x00", "123456789", thrown(5, 100)} {
		sealed := crc.Seal(s)
		for i := range 4 {
			place := len(s) + i
			for b := range 256 {
				other := sealed[:place] + ofOne(b) + sealed[place+1:]
				wantFits(t, other, other == sealed)
			}
		}
	}
}

func TestP14_2_OtherSums(t *testing.T) {
	for _, s := range []string{"a", "123456789", thrown(6, 50)} {
		n := meantOf(s)
		wantFits(t, string(binary.LittleEndian.AppendUint32([]byte(s), n)), true)
		wantFits(t, string(binary.BigEndian.AppendUint32([]byte(s), n)), false)
		wantFits(t, string(binary.LittleEndian.AppendUint32([]byte(s), ^n)), false)
		wantFits(t, string(binary.LittleEndian.AppendUint32([]byte(s), n+1)), false)
		wantFits(t, string(binary.LittleEndian.AppendUint32([]byte(s), meantMore(0, s))), false)
		wantFits(t, string(binary.LittleEndian.AppendUint32(nil, n))+s, false)
	}
}

func TestP14_2_CutOffAndLengthened(t *testing.T) {
	for size := range 120 {
		sealed := crc.Seal(thrown(uint64(size)+7, size))
		for i := range len(sealed) {
			cut := max(i-4, 0)
			wantFits(t, sealed[:i], sealed[:i] == meantSeal(sealed[:cut]))
		}
		for b := range 256 {
			longer := sealed + ofOne(b)
			wantFits(t, longer, longer == meantSeal(longer[:size+1]))
		}
	}
}

func TestP14_3_ASumGoesOnWhereItWas(t *testing.T) {
	for _, s := range ofLengths(120) {
		want := meantOf(s)
		for i := range len(s) + 1 {
			if got := ^crc.More(^crc.Of(s[:i]), s[i:]); got != want {
				t.Fatalf("of %.60q, from the sum of %d bytes on: %#x; want %#x", s, i, got, want)
			}
		}
	}
}

func TestP14_3_WhateverItBeganWith(t *testing.T) {
	s := thrown(8, 40)
	for _, n := range numbers() {
		want := meantMore(n, s)
		for i := range len(s) + 1 {
			wantMore(t, crc.More(n, s[:i]), s[i:], want)
		}
	}
}

func TestP14_3_ByteByByte(t *testing.T) {
	for _, s := range ofLengths(200) {
		n := crc.More(math.MaxUint32, "")
		for i := range len(s) {
			n = crc.Byte(n, s[i])
		}
		wantOf(t, ^n, s)
	}
}

func TestP14_3_BehindItsOwnSumEachTextIsAtOnePlace(t *testing.T) {
	for _, s := range ofLengths(200) {
		wantMore(t, math.MaxUint32, crc.Seal(s), 0xdebb20e3)
		wantOf(t, 0x2144df1c, crc.Seal(s))
	}
}

// wantUnlike turns bits of a text: it is to have another sum, and its seal no text's.
func wantUnlike(t *testing.T, s string, place int, bits uint32) {
	other := turned(s, place, bits)
	if crc.Of(other) == crc.Of(s) {
		t.Helper()
		t.Fatalf("%.60q, of %d bytes, has the same sum when the bits %#x are turned from bit %d on", s, len(s), bits, place)
	}
}

// bursts are bits of which the first one and the last one are set, so many in all.
func bursts(size int, next func() uint64) []uint32 {
	last := uint32(1) << (size - 1)
	all := last | (last - 1)
	l := []uint32{1 | last, all}
	for range 6 {
		l = append(l, (uint32(next())&all)|1|last)
	}
	return l
}

func TestP14_4_BurstsAtEveryPlace(t *testing.T) {
	next := rolled(9)
	for _, s := range []string{"\x00", "\xff", "ab", "\x00\x00\x00", "abcd", "abcde", "123456789", strings.Repeat("\x00", 16), strings.Repeat("\xff", 33), thrown(10, 100)} {
		for place := range len(s) * 8 {
			for size := 1; size <= min(32, len(s)*8-place); size++ {
				for _, bits := range bursts(size, next) {
					wantUnlike(t, s, place, bits)
				}
			}
		}
	}
}

func TestP14_4_EachBitOfAText(t *testing.T) {
	for size := 1; size <= 200; size++ {
		s := thrown(uint64(size)+11, size)
		for place := range size * 8 {
			wantUnlike(t, s, place, 1)
		}
	}
}

func TestP14_4_AllBurstsOfSixteenBits(t *testing.T) {
	s := "mews!"
	for place := range len(s)*8 - 15 {
		for bits := 1; bits < 1<<16; bits++ {
			wantUnlike(t, s, place, uint32(bits))
		}
	}
}

func TestP14_4_AllTextsOfTwoBytesHaveUnlikeSums(t *testing.T) {
	sums := make(map[uint32]int)
	for n := range 1 << 16 {
		s := ofOne(n) + ofOne(n>>8)
		if other, there := sums[crc.Of(s)]; there {
			t.Fatalf("%q has the sum of that of %#x", s, other)
		}
		sums[crc.Of(s)] = n
	}
}

// independent tells whether no number is others, turned by one another.
func independent(l []uint32) bool {
	var first [32]uint32
	for _, n := range l {
		for i := 31; i >= 0 && n != 0; i-- {
			if n>>i&1 == 0 {
				continue
			}
			if first[i] == 0 {
				first[i] = n
				break
			}
			n ^= first[i]
		}
		if n == 0 {
			return false
		}
	}
	return true
}

// What turning one bit does to a sum does not hang on the others: so no burst at all, of the 2^32 at a place, leaves a sum as it was, if what its bits do is independent.
func TestP14_4_NoBurstOfAllAtAPlaceIsLost(t *testing.T) {
	for _, size := range []int{4, 5, 7, 8, 13, 64, 200, 400} {
		s := thrown(uint64(size)+12, size)
		for place := range size*8 - 31 {
			var did []uint32
			for i := range 32 {
				did = append(did, crc.Of(s)^crc.Of(turned(s, place+i, 1)))
			}
			if !independent(did) {
				t.Fatalf("of %d bytes, from bit %d on: some bits that are turned together leave the sum as it was", size, place)
			}
		}
	}
}

func TestP14_4_TurnedBitsAddUp(t *testing.T) {
	next := rolled(13)
	for size := 4; size <= 80; size++ {
		s := thrown(uint64(size)+14, size)
		for range 40 {
			a, b := turned(s, int(next()%uint64(size*8-31)), uint32(next())), turned(s, int(next()%uint64(size*8-31)), uint32(next()))
			both := []byte(s)
			for i := range both {
				both[i] = a[i] ^ b[i] ^ s[i]
			}
			wantOf(t, crc.Of(a)^crc.Of(b)^crc.Of(s), string(both))
		}
	}
}

func TestP14_4_ASealInWhichBitsAreTurnedFitsNothing(t *testing.T) {
	next := rolled(15)
	for size := range 40 {
		sealed := crc.Seal(thrown(uint64(size)+16, size))
		for place := range len(sealed) * 8 {
			for burst := 1; burst <= min(32, len(sealed)*8-place); burst++ {
				for _, bits := range bursts(burst, next) {
					wantFits(t, turned(sealed, place, bits), false)
				}
			}
		}
	}
}
