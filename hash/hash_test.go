package hash_test

import (
	"math"
	"math/big"
	"math/bits"
	"slices"
	"strconv"
	"strings"
	"testing"

	"mews/hash"
)

// seeds are the ones of the tables: the least, the one behind it, the greatest.
var seeds = [3]uint64{0, 1, math.MaxUint64}

// sizes are all that a table may have, and such as stand for the least or the greatest.
func sizes() []int {
	l := []int{math.MinInt, math.MinInt + 1, math.MinInt32, -65, -64, -63, -17, -16, -2, -1}
	for b := range 17 {
		l = append(l, b)
	}
	return append(l, 17, 18, 31, 32, 33, 62, 63, 64, 65, 128, 256, 1<<16, 1<<32, math.MaxInt32, math.MaxInt-1, math.MaxInt)
}

// meantSize is the size that a number stands for.
func meantSize(b int) int {
	switch {
	case b < 0:
		return 0
	case b > 16:
		return 16
	}
	return b
}

// modulus is 2^64.
var modulus = new(big.Int).Lsh(big.NewInt(1), 64)

func number(decimal string) *big.Int {
	n, _ := new(big.Int).SetString(decimal, 10)
	return n
}

// meantOf is a text's number as the document's words say it, in numbers without a bound.
func meantOf(seed uint64, s string) uint64 {
	h := number("14695981039346656037")
	h.Xor(h, new(big.Int).SetUint64(seed))
	turn := func() { h.Xor(h, new(big.Int).Rsh(h, 33)) }
	multiply := func(decimal string) {
		h.Mul(h, number(decimal))
		h.Mod(h, modulus)
	}
	for _, c := range []byte(s) {
		h.Xor(h, big.NewInt(int64(c)))
		multiply("1099511628211")
	}
	turn()
	multiply("18397679294719823053")
	turn()
	multiply("14181476777654086739")
	turn()
	return h.Uint64()
}

// digits are a number's 64 bits, the highest first.
func digits(n uint64) string {
	s := strconv.FormatUint(n, 2)
	return strings.Repeat("0", 64-len(s)) + s
}

// lowest are a number's lowest bits, as digits.
func lowest(n uint64, b int) string { return digits(n)[64-meantSize(b):] }

// read is the number of such digits; no digits are 0.
func read(s string) uint64 {
	n, _ := strconv.ParseUint("0"+s, 2, 64)
	return n
}

// backward are the digits from the last one to the first one.
func backward(s string) string {
	l := []byte(s)
	slices.Reverse(l)
	return string(l)
}

// meantTurn is what Turn is to be.
func meantTurn(n uint64, b int) uint64 { return read(backward(lowest(n, b))) }

// meantNext is what Next is to be: one is added to the digits that are read backward, the first one of which is the last one to be turned.
func meantNext(cursor uint64, b int) uint64 {
	l := []byte(lowest(cursor, b))
	for i := range l {
		if l[i] == '0' {
			l[i] = '1'
			break
		}
		l[i] = '0'
	}
	return read(string(l))
}

// meantWalk is what Walk is to be.
func meantWalk(b int) []uint64 {
	l := []uint64{0}
	for c := meantNext(0, b); c != 0; c = meantNext(c, b) {
		l = append(l, c)
	}
	return l
}

// rolled gives numbers that look as if they were thrown; of one seed always the same ones.
func rolled(seed uint64) func() uint64 {
	return func() uint64 {
		seed = seed*6364136223846793005 + 1442695040888963407
		return seed ^ seed>>29
	}
}

// numbers are those at, and beside, each place where a bit turns, and rolled ones.
func numbers() []uint64 {
	var l []uint64
	for i := range 64 {
		n := uint64(1) << i
		l = append(l, n, n-1, n+1, ^n, -n, math.MaxUint64<<i, math.MaxUint64>>i)
	}
	l = append(l, 0, math.MaxUint64, 0x5555555555555555, 0xaaaaaaaaaaaaaaaa, 0x0123456789abcdef)
	roll := rolled(6)
	for range 500 {
		l = append(l, roll())
	}
	return l
}

func eachByte() []string {
	var l []string
	for c := range 256 {
		l = append(l, string([]byte{byte(c)}))
	}
	return l
}

func allBytes() string { return strings.Join(eachByte(), "") }

// texts are all of up to so many bytes, made of an alphabet.
func texts(alphabet string, most int) []string {
	all := []string{""}
	last := all
	for range most {
		var next []string
		for _, s := range last {
			for i := range len(alphabet) {
				next = append(next, s+alphabet[i:i+1])
			}
		}
		all = append(all, next...)
		last = next
	}
	return all
}

// flipped is a text in which one bit is the other way.
func flipped(s string, bit int) string {
	l := []byte(s)
	l[bit/8] ^= 1 << (bit % 8)
	return string(l)
}

// endOnFault keeps those who go through very many numbers from telling all that is wrong.
func endOnFault(t *testing.T) {
	t.Helper()
	if t.Failed() {
		t.FailNow()
	}
}

func wantOf(t *testing.T, seed uint64, s string, want uint64) {
	t.Helper()
	if h := hash.Of(seed, s); h != want {
		t.Errorf("Of(%d, %.40q) = %d; want %d", seed, s, h, want)
	}
}

func wantPlace(t *testing.T, h uint64, b, want int) {
	t.Helper()
	if p := hash.Place(h, b); p != want {
		t.Errorf("Place(%#x, %d) = %d; want %d", h, b, p, want)
	}
}

func wantTurn(t *testing.T, n uint64, b int, want uint64) {
	t.Helper()
	if m := hash.Turn(n, b); m != want {
		t.Errorf("Turn(%#x, %d) = %#x; want %#x", n, b, m, want)
	}
}

func wantNext(t *testing.T, cursor uint64, b int, want uint64) {
	t.Helper()
	if c := hash.Next(cursor, b); c != want {
		t.Errorf("Next(%#x, %d) = %#x; want %#x", cursor, b, c, want)
	}
}

func wantWalk(t *testing.T, b int, want ...uint64) {
	t.Helper()
	if l := hash.Walk(b); !slices.Equal(l, want) {
		t.Errorf("Walk(%d) are %d cursors, %d ..; want %d, %d ..", b, len(l), l[:min(len(l), 20)], len(want), want[:min(len(want), 20)])
	}
}

// The numbers that stand here were not worked out by this program.
func TestP6_1_NumbersOfTexts(t *testing.T) {
	for _, x := range []struct {
		s    string
		want [3]uint64
	}{
		{"", [3]uint64{17280346270528514342, 1345043401796196485, 1578520776543378180}},
		{"\x00", [3]uint64{13331581593930102267, 971909191830961740, 4522111917781796326}},
		{"\x7f", [3]uint64{5979014887526415215, 17347123043631126298, 5080099414270515644}},
		{"\x80", [3]uint64{18295326432592074881, 10738379180652344413, 5908523234729172039}},
		{"\xff", [3]uint64{1998855519756462295, 5910138004316087956, 7555878011983324934}},
		{"\x00\x00", [3]uint64{15781109044088493677, 1567132243454111742, 12298508219367547138}},
		{"\xff\xff", [3]uint64{689861552466052133, 3434338312684237183, 11890565578984523299}},
		{"\x00\x7f\x80\xff", [3]uint64{2090465430640008181, 14873924032104628109, 10847681774797617878}},
		{"\xff\x80\x7f\x00", [3]uint64{1753571196150785038, 4316822600279884556, 1460524276837669718}},
		{"a", [3]uint64{9413272369427828315, 9722678525624113188, 11596957086776221223}},
		{"b", [3]uint64{7955382828454826704, 8577447940197089550, 549185595535477616}},
		{"ab", [3]uint64{15740586271646006756, 13681631638332452014, 2707502638539407721}},
		{"ba", [3]uint64{466493766494019628, 5669231822168592982, 14239087705137200993}},
		{"key:1", [3]uint64{4098048589259694704, 17618271514735101622, 7456247721977528438}},
		{"key:2", [3]uint64{6968036665322820135, 12608713512434814446, 12803502330675247067}},
		{"KEY:1", [3]uint64{1727147841619495423, 7286068368675872496, 11838408173967701573}},
		{"hello, world", [3]uint64{14071310382463520539, 1486563690552367081, 10417422556082152266}},
		{allBytes(), [3]uint64{2335076196188879366, 4736828468230830726, 9503575627352544742}},
		{strings.Repeat("\x00", 1000), [3]uint64{5829032114001076357, 3068635048987181513, 15894558834385100997}},
	} {
		for i, seed := range seeds {
			wantOf(t, seed, x.s, x.want[i])
			wantOf(t, seed, x.s, meantOf(seed, x.s))
		}
	}
}

// Two texts, or two seeds, of which one bit is another one: a text's lowest bit, its highest one, one of its last byte; a seed's lowest one, a higher one, its highest one.
func TestP6_1_OneBitIsAnotherOne(t *testing.T) {
	for _, x := range []struct {
		seed uint64
		s    string
		want uint64
	}{
		{0, "mews", 17795153304175607920},
		{0, "lews", 4171976917108982414},
		{0, "\xedews", 11477901326926390417},
		{0, "mewr", 13832554320899068611},
		{0, "mew3", 17120605164334248013},
		{1, "mews", 4171976917108982414},
		{2, "mews", 15895353664206297062},
		{4, "mews", 12243063319072379497},
		{5, "mews", 4234349379428295396},
		{1 << 63, "mews", 2829634886110378003},
		{1<<63 - 1, "mews", 18204807556987427680},
		{math.MaxUint64 - 1, "mews", 6579126500926828291},
		{math.MaxUint64, "mews", 16331121728363468746},
	} {
		wantOf(t, x.seed, x.s, x.want)
	}
}

// Each bit of a text, and of a seed, is part of the number. (Each step may be undone, so that no two numbers that differ become one, as long as the bytes are the same.)
func TestP6_1_EachBitCounts(t *testing.T) {
	for _, s := range []string{"\x00", "a", "mews", "\xff\xff\xff", "key:1234567890", allBytes()} {
		for _, seed := range seeds {
			h := hash.Of(seed, s)
			for bit := range 8 * len(s) {
				other := flipped(s, bit)
				wantOf(t, seed, other, meantOf(seed, other))
				if hash.Of(seed, other) == h {
					t.Errorf("Of(%d, %.40q): without its bit %d it is the same", seed, s, bit)
				}
			}
			for bit := range 64 {
				other := seed ^ 1<<bit
				wantOf(t, other, s, meantOf(other, s))
				if hash.Of(other, s) == h {
					t.Errorf("Of(%d, %.40q): with the bit %d of the seed another one it is the same", seed, s, bit)
				}
			}
			endOnFault(t)
		}
	}
}

func TestP6_1_EachByteInEachPlace(t *testing.T) {
	for _, c := range eachByte() {
		for _, s := range []string{c, c + "ab", "a" + c + "b", "ab" + c, c + c, "a" + c + c + "b", c + strings.Repeat("z", 70)} {
			for _, seed := range seeds {
				wantOf(t, seed, s, meantOf(seed, s))
			}
		}
		endOnFault(t)
	}
}

func TestP6_1_AllShortTexts(t *testing.T) {
	seen := map[uint64]string{}
	for _, s := range texts("\x00a\x7f\x80\xff", 5) {
		wantOf(t, 7, s, meantOf(7, s))
		if other, there := seen[hash.Of(7, s)]; there {
			t.Errorf("%q and %q have one number", s, other)
		}
		seen[hash.Of(7, s)] = s
		endOnFault(t)
	}
}

func TestP6_1_TextsOfAllLengthsAndRolledSeeds(t *testing.T) {
	roll := rolled(61)
	for n := range 300 {
		l := make([]byte, n)
		for i := range l {
			l[i] = byte(roll() >> 20)
		}
		for _, seed := range []uint64{0, 1, 2, 1 << 31, 1 << 32, 1 << 63, math.MaxUint64, roll(), roll(), roll()} {
			wantOf(t, seed, string(l), meantOf(seed, string(l)))
		}
		endOnFault(t)
	}
	for _, seed := range numbers() {
		wantOf(t, seed, "", meantOf(seed, ""))
		wantOf(t, seed, "k", meantOf(seed, "k"))
	}
}

func TestP6_1_AVeryLongText(t *testing.T) {
	s := strings.Repeat("ab\x00\xff", 1<<16)
	for _, seed := range seeds {
		wantOf(t, seed, s, meantOf(seed, s))
		wantOf(t, seed, s[1:], meantOf(seed, s[1:]))
	}
}

// A text's number hangs on nothing but the seed and the text.
func TestP6_1_TheSameAgain(t *testing.T) {
	for _, seed := range seeds {
		h := hash.Of(seed, "mews")
		hash.Of(seed+1, "others")
		wantOf(t, seed, strings.Join([]string{"me", "ws"}, ""), h)
		wantOf(t, seed, "xmewsx"[1:5], h)
	}
}

func TestP6_1_Places(t *testing.T) {
	for _, x := range []struct {
		h       uint64
		b, want int
	}{
		{0, 0, 0}, {0, 2, 0}, {0, 16, 0},
		{1, 0, 0}, {1, 1, 1}, {1, 16, 1},
		{2, 1, 0}, {2, 2, 2}, {3, 1, 1}, {3, 2, 3}, {4, 2, 0}, {5, 2, 1}, {6, 2, 2}, {7, 2, 3}, {7, 3, 7}, {8, 3, 0},
		{0x7fff, 15, 0x7fff}, {0x8000, 15, 0}, {0x8000, 16, 0x8000}, {0xffff, 15, 0x7fff}, {0xffff, 16, 0xffff},
		{0x10000, 16, 0}, {0x10000, 17, 0}, {0x1ffff, 16, 0xffff}, {0x1ffff, 17, 0xffff}, {0x1ffff, math.MaxInt, 0xffff},
		{1 << 63, 16, 0}, {1 << 63, math.MaxInt, 0}, {1<<63 + 5, 2, 1}, {1<<32 + 3, 1, 1},
		{17280346270528514342, 4, 6}, {17280346270528514342, 16, 0x2926},
		{5, -1, 0}, {5, math.MinInt, 0}, {5, math.MaxInt, 5},
	} {
		wantPlace(t, x.h, x.b, x.want)
	}
}

func TestP6_1_PlacesOfANumberAllOfWhoseBitsAreSet(t *testing.T) {
	for b, want := range []int{0, 1, 3, 7, 15, 31, 63, 127, 255, 511, 1023, 2047, 4095, 8191, 16383, 32767, 65535, 65535, 65535} {
		wantPlace(t, math.MaxUint64, b, want)
	}
	for b, want := range map[int]int{-1: 0, math.MinInt: 0, math.MinInt + 1: 0, 64: 65535, 65: 65535, math.MaxInt - 1: 65535, math.MaxInt: 65535} {
		wantPlace(t, math.MaxUint64, b, want)
	}
}

func TestP6_1_PlacesOfAllSizes(t *testing.T) {
	for _, b := range sizes() {
		for _, h := range numbers() {
			wantPlace(t, h, b, int(read(lowest(h, b))))
		}
		endOnFault(t)
	}
}

func TestP6_2_Turns(t *testing.T) {
	for _, x := range []struct {
		n    uint64
		b    int
		want uint64
	}{
		{0, 0, 0}, {0, 1, 0}, {0, 16, 0},
		{1, 0, 0}, {1, 1, 1}, {1, 2, 2}, {1, 3, 4}, {1, 15, 1 << 14}, {1, 16, 1 << 15},
		{2, 1, 0}, {2, 2, 1}, {2, 3, 2}, {2, 16, 1 << 14},
		{3, 1, 1}, {3, 2, 3}, {3, 3, 6}, {3, 16, 0xc000},
		{6, 3, 3}, {6, 4, 6}, {6, 2, 1}, {0x8000, 15, 0}, {0x8000, 16, 1}, {0x4000, 15, 1}, {0x4000, 16, 2},
		{0x1234, 16, 0x2c48}, {0x1234, 15, 0x1624}, {0xffff, 16, 0xffff}, {0xffff, 15, 0x7fff}, {0x00ff, 16, 0xff00},
	} {
		wantTurn(t, x.n, x.b, x.want)
	}
}

// Bits above the lowest b ones are not read, nor are there any in what is told.
func TestP6_2_TurnsOfNumbersWithHigherBits(t *testing.T) {
	for _, x := range []struct {
		n    uint64
		b    int
		want uint64
	}{
		{math.MaxUint64, 0, 0}, {math.MaxUint64, 1, 1}, {math.MaxUint64, 2, 3}, {math.MaxUint64, 15, 0x7fff}, {math.MaxUint64, 16, 0xffff}, {math.MaxUint64, 17, 0xffff},
		{math.MaxUint64 - 1, 1, 0}, {math.MaxUint64 - 1, 2, 1}, {math.MaxUint64 - 1, 16, 0x7fff},
		{1 << 63, 16, 0}, {1 << 63, 17, 0}, {1 << 63, 64, 0}, {1<<63 + 1, 16, 0x8000}, {1<<63 + 1, 64, 0x8000},
		{0x10000, 16, 0}, {0x10000, 17, 0}, {0x10001, 17, 0x8000}, {0xfff8, 3, 0}, {0xfff9, 3, 4}, {0xfffffffffffffffd, 2, 2},
	} {
		wantTurn(t, x.n, x.b, x.want)
	}
}

func TestP6_2_TurnsOfSizesThatThereAreNot(t *testing.T) {
	for _, n := range []uint64{0, 1, 2, 0x1234, 0xffff, 0x10000, 0x12345, math.MaxUint64} {
		for _, b := range []int{-1, -2, -16, -64, math.MinInt, math.MinInt + 1} {
			wantTurn(t, n, b, 0)
		}
		for _, b := range []int{17, 18, 32, 63, 64, 65, 1 << 32, math.MaxInt - 1, math.MaxInt} {
			wantTurn(t, n, b, uint64(bits.Reverse16(uint16(n))))
		}
	}
}

func TestP6_2_TurnsOfAllSizes(t *testing.T) {
	for _, b := range sizes() {
		for _, n := range numbers() {
			wantTurn(t, n, b, meantTurn(n, b))
		}
		endOnFault(t)
	}
	for n := range uint64(1 << 16) {
		wantTurn(t, n, 16, uint64(bits.Reverse16(uint16(n))))
		wantTurn(t, n, 15, uint64(bits.Reverse16(uint16(n))>>1))
		endOnFault(t)
	}
}

// What is turned twice is the lowest bits again.
func TestP6_2_TurnedTwice(t *testing.T) {
	for _, b := range sizes() {
		for _, n := range numbers() {
			if twice := hash.Turn(hash.Turn(n, b), b); twice != uint64(hash.Place(n, b)) {
				t.Errorf("Turn(Turn(%#x, %d), %d) = %#x", n, b, b, twice)
			}
		}
		endOnFault(t)
	}
}

func TestP6_2_CursorsBehindOthers(t *testing.T) {
	for _, x := range []struct {
		cursor uint64
		b      int
		want   uint64
	}{
		{0, 0, 0}, {0, 1, 1}, {1, 1, 0},
		{0, 2, 2}, {2, 2, 1}, {1, 2, 3}, {3, 2, 0},
		{0, 3, 4}, {4, 3, 2}, {2, 3, 6}, {6, 3, 1}, {1, 3, 5}, {5, 3, 3}, {3, 3, 7}, {7, 3, 0},
		{0, 15, 0x4000}, {0x4000, 15, 0x2000}, {0x2000, 15, 0x6000}, {0x7ffe, 15, 1}, {1, 15, 0x4001},
		{0, 16, 0x8000}, {0x8000, 16, 0x4000}, {0x4000, 16, 0xc000}, {0xc000, 16, 0x2000}, {0xfffe, 16, 1}, {1, 16, 0x8001}, {0x7fff, 16, 0xffff},
	} {
		wantNext(t, x.cursor, x.b, x.want)
	}
}

// Behind the last cursor of a walk, all of whose bits are set, is 0.
func TestP6_2_TheCursorBehindTheLastOne(t *testing.T) {
	for b := range 17 {
		last := uint64(1)<<b - 1
		wantNext(t, last, b, 0)
		wantNext(t, last|1<<b, b, 0)
		wantNext(t, math.MaxUint64, b, 0)
		walk := hash.Walk(b)
		if len(walk) == 0 || walk[len(walk)-1] != last {
			t.Errorf("Walk(%d) ends with another one than %#x", b, last)
		}
	}
	for _, b := range []int{17, 64, math.MaxInt} {
		wantNext(t, 0xffff, b, 0)
		wantNext(t, 0x1ffff, b, 0)
		wantNext(t, math.MaxUint64, b, 0)
	}
}

// Of a cursor's bits above the lowest b ones none is read, and none is left.
func TestP6_2_CursorsWithHigherBits(t *testing.T) {
	for _, x := range []struct {
		cursor uint64
		b      int
		want   uint64
	}{
		{1, 0, 0}, {math.MaxUint64, 0, 0}, {2, 1, 1}, {3, 1, 0}, {4, 2, 2}, {5, 2, 3}, {6, 2, 1}, {7, 2, 0},
		{0xfffffffffffffff8, 3, 4}, {0xfffffffffffffffc, 3, 2}, {math.MaxUint64 - 1, 2, 1}, {math.MaxUint64 - 2, 2, 3},
		{0x8000, 15, 0x4000}, {0x10000, 16, 0x8000}, {0x18000, 16, 0x4000}, {1 << 63, 16, 0x8000}, {1<<63 + 0x8000, 16, 0x4000},
	} {
		wantNext(t, x.cursor, x.b, x.want)
	}
}

func TestP6_2_CursorsOfSizesThatThereAreNot(t *testing.T) {
	for _, c := range []uint64{0, 1, 2, 0x8000, 0xffff, 0x10000, math.MaxUint64} {
		for _, b := range []int{-1, -2, -16, -64, math.MinInt, math.MinInt + 1} {
			wantNext(t, c, b, 0)
		}
		for _, b := range []int{17, 18, 32, 63, 64, 65, 1 << 32, math.MaxInt - 1, math.MaxInt} {
			wantNext(t, c, b, meantNext(c, 16))
		}
	}
}

func TestP6_2_CursorsOfAllSizes(t *testing.T) {
	for _, b := range sizes() {
		for _, c := range numbers() {
			wantNext(t, c, b, meantNext(c, b))
		}
		endOnFault(t)
	}
	for c := range uint64(1 << 17) {
		wantNext(t, c, 16, meantNext(c, 16))
		wantNext(t, c, 15, meantNext(c, 15))
		endOnFault(t)
	}
}

func TestP6_2_Walks(t *testing.T) {
	wantWalk(t, 0, 0)
	wantWalk(t, 1, 0, 1)
	wantWalk(t, 2, 0, 2, 1, 3)
	wantWalk(t, 3, 0, 4, 2, 6, 1, 5, 3, 7)
	wantWalk(t, 4, 0, 8, 4, 12, 2, 10, 6, 14, 1, 9, 5, 13, 3, 11, 7, 15)
	for b := range 17 {
		wantWalk(t, b, meantWalk(b)...)
	}
}

func TestP6_2_WalksOfSizesThatThereAreNot(t *testing.T) {
	for _, b := range []int{-1, -2, -16, -64, math.MinInt, math.MinInt + 1} {
		wantWalk(t, b, 0)
	}
	most := meantWalk(16)
	for _, b := range []int{17, 18, 32, 63, 64, 65, 1 << 32, math.MaxInt - 1, math.MaxInt} {
		wantWalk(t, b, most...)
	}
}

// A walk goes by Next, from 0 on, and the place of a cursor in it is the cursor, turned.
func TestP6_2_AWalkGoesByNext(t *testing.T) {
	for b := range 17 {
		c := uint64(0)
		for i, at := range hash.Walk(b) {
			if at != c || hash.Turn(at, b) != uint64(i) {
				t.Fatalf("Walk(%d) has %#x at %d; want %#x; turned it is %d", b, at, i, c, hash.Turn(at, b))
			}
			c = hash.Next(c, b)
		}
		if c != 0 {
			t.Errorf("Walk(%d) ends ahead of %#x", b, c)
		}
	}
}

// What is told is no list that is told again.
func TestP6_2_WalksShareNoList(t *testing.T) {
	for _, b := range []int{-1, 0, 1, 2, 5, 16, 17} {
		first, second := hash.Walk(b), hash.Walk(b)
		for i := range first[:cap(first)] {
			first[:cap(first)][i] = math.MaxUint64
		}
		want := meantWalk(b)
		if !slices.Equal(second, want) {
			t.Errorf("Walk(%d), behind another one's change, begins with %d", b, second[:min(len(second), 9)])
		}
		wantWalk(t, b, want...)
	}
}

func TestP6_3_AWalkHasEachCursorOnce(t *testing.T) {
	for _, b := range sizes() {
		places := 1 << meantSize(b)
		walk := hash.Walk(b)
		if len(walk) != places {
			t.Errorf("Walk(%d) has %d cursors; want %d", b, len(walk), places)
		}
		times := make([]int, places)
		for _, c := range walk {
			if c >= uint64(places) {
				t.Fatalf("Walk(%d) has %#x, which is no cursor", b, c)
			}
			times[c]++
		}
		for c, n := range times {
			if n != 1 {
				t.Fatalf("Walk(%d) has %#x %d times", b, c, n)
			}
		}
	}
}

// From whichever cursor on, all are gone through till it comes again.
func TestP6_3_FromEachCursorOn(t *testing.T) {
	for b := range 9 {
		for from := range uint64(1) << b {
			seen := map[uint64]bool{from: true}
			for c := hash.Next(from, b); c != from; c = hash.Next(c, b) {
				if seen[c] || c >= 1<<b {
					t.Fatalf("size %d: from %d on %d comes again", b, from, c)
				}
				seen[c] = true
			}
			if len(seen) != 1<<b {
				t.Errorf("size %d: from %d on there are %d cursors", b, from, len(seen))
			}
		}
	}
}

// Of a table of twice the size the places c and c + 2^b stand beside one another in the walk, at c's place.
func TestP6_4_PartedPlacesStandBesideOneAnother(t *testing.T) {
	for b := range 16 {
		walk, twice := hash.Walk(b), hash.Walk(b+1)
		if len(walk) != 1<<b || len(twice) != 2<<b {
			t.Fatalf("Walk(%d) has %d cursors, Walk(%d) %d", b, len(walk), b+1, len(twice))
		}
		for i, c := range walk {
			if twice[2*i] != c || twice[2*i+1] != c+1<<b {
				t.Fatalf("Walk(%d) has %#x at %d, Walk(%d) there %#x and %#x", b, c, i, b+1, twice[2*i], twice[2*i+1])
			}
		}
	}
}

// A number whose place is parted stands at one of both places of the table of twice the size.
func TestP6_4_NumbersOfAPlaceThatIsParted(t *testing.T) {
	for b := range 16 {
		for _, h := range numbers() {
			place, parted := hash.Place(h, b), hash.Place(h, b+1)
			if parted != place && parted != place+1<<b {
				t.Errorf("Place(%#x, %d) = %#x, Place(%#x, %d) = %#x", h, b, place, h, b+1, parted)
			}
		}
	}
}

// Wherever a walk is left, and gone on with in a table of another size, what was gone past in the one is gone past in the other: all of it in a greater one; in a lesser one all but the place that both parts, of which only one was gone past, become.
func TestP6_4_WhatWasGonePastIsGonePast(t *testing.T) {
	for b := range 9 {
		for greater := b; greater < 9; greater++ {
			walk, parts := hash.Walk(b), hash.Walk(greater)
			each := len(parts) / len(walk)
			for i, c := range walk {
				// In the greater one the cursor stands just behind all parts of what was gone past.
				if at := slices.Index(parts, c); at != i*each {
					t.Fatalf("%#x, at %d of Walk(%d), is at %d of Walk(%d)", c, i, b, at, greater)
				}
			}
			for i, c := range parts {
				// In the lesser one Next goes on behind the place of which it is a part.
				place := uint64(hash.Place(c, b))
				if at := slices.Index(walk, place); at != i/each {
					t.Fatalf("%#x, at %d of Walk(%d), is a part of what is at %d of Walk(%d)", c, i, greater, at, b)
				}
				if hash.Next(c, b) != hash.Next(place, b) {
					t.Fatalf("Next(%#x, %d) = %#x; want %#x", c, b, hash.Next(c, b), hash.Next(place, b))
				}
			}
		}
	}
}
