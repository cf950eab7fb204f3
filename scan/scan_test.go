package scan_test

import (
	"math"
	"math/big"
	"slices"
	"strconv"
	"strings"
	"testing"

	"mews/dict"
	"mews/hash"
	"mews/scan"
)

// seeds are the ones of the tables: the least, the one behind it, the greatest.
var seeds = [3]uint64{0, 1, math.MaxUint64}

// oddKeys are the empty key, and keys of bytes that letters do not have.
var oddKeys = []string{"", "\x00", "\x7f", "\x80", "\xff", "\x00\x00", "\x00\x7f\x80\xff", "a\x00", "a", "\xff\xff", strings.Repeat("\x80", 300)}

// counts are such as stand for 1, the least ones, and great ones, of which ten times as many are no int.
func counts() []int {
	l := []int{math.MinInt, math.MinInt + 1, math.MinInt32, -100001, -2, -1, 0}
	for n := 1; n < 12; n++ {
		l = append(l, n)
	}
	return append(l, 100, 1000, 99999, 100000, 100001, 1000000, math.MaxInt32, 1<<60, 1<<61, 1<<62, math.MaxInt/10+1, math.MaxInt-1, math.MaxInt)
}

// cursors are all that a table of a size has, and such as have bits beyond it.
func cursors(size int) []uint64 {
	var l []uint64
	for c := range uint64(1) << size {
		l = append(l, c, c+1<<size, c|1<<63, c|math.MaxUint64<<size)
	}
	return append(l, math.MaxUint64, math.MaxUint64-1, 0x5555555555555555, 0xaaaaaaaaaaaaaaaa, 0x0123456789abcdef)
}

// nth is one of very many keys.
func nth(i int) string { return "k" + strconv.Itoa(i) }

// numbered are so many keys.
func numbered(n int) []string {
	var l []string
	for i := range n {
		l = append(l, nth(i))
	}
	return l
}

// keysAt are keys that all stand at one place of a table of that size.
func keysAt(seed uint64, size, place, n int) []string {
	var l []string
	for i := 0; len(l) < n; i++ {
		if hash.Place(hash.Of(seed, nth(i)), size) == place {
			l = append(l, nth(i))
		}
	}
	return l
}

// rolled gives numbers below n that look as if they were thrown; of one seed always the same ones.
func rolled(seed uint64) func(n int) int {
	return func(n int) int {
		seed = seed*6364136223846793005 + 1442695040888963407
		return int((seed ^ seed>>29) >> 11 % uint64(n))
	}
}

// put puts keys, each with its number as its value.
func put(table *dict.Table[int], keys ...string) {
	for i, k := range keys {
		table.Put(k, i)
	}
}

func drop(table *dict.Table[int], keys ...string) {
	for _, k := range keys {
		table.Drop(k)
	}
}

// filled is a table into which so many keys came, and that is not parted.
func filled(seed uint64, n int) *dict.Table[int] {
	table := dict.New[int](seed)
	put(table, numbered(n)...)
	table.Step(math.MaxInt)
	return table
}

// grown is a table of a size that is parted toward one more.
func grown(t *testing.T, seed uint64, size int) *dict.Table[int] {
	t.Helper()
	table := filled(seed, 1<<size)
	table.Put(nth(1<<size), 0)
	wantParted(t, table, size, 0, size+1)
	return table
}

// shrunk is a table of a size that is parted toward one less.
func shrunk(t *testing.T, seed uint64, size int) *dict.Table[int] {
	t.Helper()
	table := filled(seed, 1<<(size-1)+1)
	wantParted(t, table, size, -1, -1)
	for _, k := range numbered(1<<(size-1) + 1) {
		if table.Toward() < 0 {
			table.Drop(k)
		}
	}
	wantParted(t, table, size, 0, size-1)
	return table
}

// eachTable hands on tables of all sizes up to 6, each not parted, and parted toward more and toward fewer so far as it goes, with keys that came since at new places.
func eachTable(t *testing.T, seed uint64, do func(*dict.Table[int])) {
	t.Helper()
	for n := range 65 {
		do(filled(seed, n))
	}
	for size := 2; size < 6; size++ {
		for moved := range 1 << size {
			for _, came := range []int{0, 1, 3, moved} {
				table := grown(t, seed, size)
				table.Step(moved - came)
				put(table, numbered(1000 + min(came, moved))[1000:]...)
				wantParted(t, table, size, moved, size+1)
				do(table)
			}
		}
	}
	for size := 3; size < 7; size++ {
		for moved := range 1 << size {
			for _, came := range []int{0, 1, 3, moved} {
				table := shrunk(t, seed, size)
				table.Step(moved - came)
				put(table, numbered(1000 + min(came, moved))[1000:]...)
				wantParted(t, table, size, moved, size-1)
				do(table)
			}
		}
	}
}

// lesser is the size of a table, of a parted one the lesser one of both.
func lesser[V any](table *dict.Table[V]) int {
	if table.Toward() < 0 {
		return table.Size()
	}
	return min(table.Size(), table.Toward())
}

// lowest are a number's lowest bits, as digits, the lowest first.
func lowest(n uint64, b int) string {
	s := strings.Repeat("0", 64) + strconv.FormatUint(n, 2)
	l := []byte(s[len(s)-b:])
	slices.Reverse(l)
	return string(l)
}

// cursorOf is the number of digits, the lowest first.
func cursorOf(digits string) uint64 {
	var n uint64
	for i := range len(digits) {
		if digits[i] == '1' {
			n += 1 << i
		}
	}
	return n
}

// meantNext is the cursor behind one: it is read from its other end, and is one more.
func meantNext(cursor uint64, b int) uint64 {
	l := []byte(lowest(cursor, b))
	for i := len(l) - 1; i >= 0; i-- {
		if l[i] == '0' {
			l[i] = '1'
			break
		}
		l[i] = '0'
	}
	return cursorOf(string(l))
}

// meantTurn is what Turn is to tell, of how the table stands.
func meantTurn[V any](table *dict.Table[V], cursor uint64) (uint64, []string) {
	s := lesser(table)
	c := int(cursorOf(lowest(cursor, s)))
	next := meantNext(cursor, s)
	switch {
	case table.Toward() < 0:
		return next, table.Chain(true, c)
	case table.Toward() > table.Size():
		return next, slices.Concat(table.Chain(true, c), table.Chain(false, c), table.Chain(false, c+1<<s))
	}
	return next, slices.Concat(table.Chain(false, c), table.Chain(true, c), table.Chain(true, c+1<<s))
}

// meantScan is what Scan is to tell.
func meantScan[V any](table *dict.Table[V], cursor uint64, count int) (uint64, []string) {
	count = max(count, 1)
	most := 1000000
	if count <= 100000 {
		most = 10 * count
	}
	var keys []string
	for turns := 1; ; turns++ {
		next, told := meantTurn(table, cursor)
		cursor, keys = next, append(keys, told...)
		if len(keys) >= count || cursor == 0 || turns == most {
			return cursor, keys
		}
	}
}

// meantPick is what Pick is to tell.
func meantPick[V any](table *dict.Table[V], n uint64) (string, bool) {
	keys := table.Keys()
	if len(keys) == 0 {
		return "", false
	}
	place := new(big.Int).Mod(new(big.Int).SetUint64(n), big.NewInt(int64(len(keys))))
	return keys[place.Int64()], true
}

func wantParted[V any](t *testing.T, table *dict.Table[V], size, moved, toward int) {
	t.Helper()
	if s, m, to := table.Size(), table.Moved(), table.Toward(); s != size || m != moved || to != toward {
		t.Fatalf("the table stands at %d, %d, %d; the test is of one at %d, %d, %d", s, m, to, size, moved, toward)
	}
}

// how tells how a table stands.
func how[V any](table *dict.Table[V]) string {
	return strconv.Itoa(table.Len()) + " keys, size " + strconv.Itoa(table.Size()) + ", moved " + strconv.Itoa(table.Moved()) + ", toward " + strconv.Itoa(table.Toward())
}

func short(l []string) []string { return l[:min(len(l), 30)] }

func wantTold(t *testing.T, what string, cursor uint64, keys []string, wantCursor uint64, wantKeys []string) {
	t.Helper()
	if cursor != wantCursor || !slices.Equal(keys, wantKeys) {
		t.Fatalf("%s: %#x, %d keys, %.40q; want %#x, %d keys, %.40q", what, cursor, len(keys), short(keys), wantCursor, len(wantKeys), short(wantKeys))
	}
}

func wantTurn[V any](t *testing.T, table *dict.Table[V], cursor, wantCursor uint64, wantKeys ...string) {
	t.Helper()
	next, keys := scan.Turn(table, cursor)
	wantTold(t, how(table)+": Turn from "+strconv.FormatUint(cursor, 10), next, keys, wantCursor, wantKeys)
}

func wantScan[V any](t *testing.T, table *dict.Table[V], cursor uint64, count int, wantCursor uint64, wantKeys ...string) {
	t.Helper()
	next, keys := scan.Scan(table, cursor, count)
	wantTold(t, how(table)+": Scan from "+strconv.FormatUint(cursor, 10)+" of "+strconv.Itoa(count), next, keys, wantCursor, wantKeys)
}

func wantPick[V any](t *testing.T, table *dict.Table[V], n uint64, wantKey string, wantOK bool) {
	t.Helper()
	if key, ok := scan.Pick(table, n); key != wantKey || ok != wantOK {
		t.Fatalf("%s: Pick of %d: %.40q, %v; want %.40q, %v", how(table), n, key, ok, wantKey, wantOK)
	}
}

func wantMeantTurn[V any](t *testing.T, table *dict.Table[V], cursor uint64) {
	t.Helper()
	next, keys := meantTurn(table, cursor)
	wantTurn(t, table, cursor, next, keys...)
}

func wantMeantScan[V any](t *testing.T, table *dict.Table[V], cursor uint64, count int) {
	t.Helper()
	next, keys := meantScan(table, cursor, count)
	wantScan(t, table, cursor, count, next, keys...)
}

func wantMeantPick[V any](t *testing.T, table *dict.Table[V], n uint64) {
	t.Helper()
	key, ok := meantPick(table, n)
	wantPick(t, table, n, key, ok)
}

func TestP8_1_ATurnAtEachCursor(t *testing.T) {
	for _, seed := range seeds {
		eachTable(t, seed, func(table *dict.Table[int]) {
			for _, c := range cursors(lesser(table)) {
				wantMeantTurn(t, table, c)
			}
		})
	}
}

// Of one place of a table that grows, all that it has: those that were not moved, and those that came since at both places that it is parted into, in order.
func TestP8_1_ThreePlacesOfATableThatGrows(t *testing.T) {
	for _, seed := range seeds {
		low, high := keysAt(seed, 3, 3, 5), keysAt(seed, 3, 7, 4)
		table := dict.New[int](seed)
		put(table, low[0], high[0], low[1], high[1], low[2])
		wantParted(t, table, 2, 0, 3)
		put(table, high[2], low[3], high[3])
		wantParted(t, table, 2, 3, 3)
		for _, c := range []uint64{3, 7, 11, math.MaxUint64, 1<<63 + 3} {
			wantTurn(t, table, c, 0, low[2], high[1], low[1], high[0], low[0], low[3], high[3], high[2])
		}
		wantTurn(t, table, 0, 2)
		wantTurn(t, table, 2, 1)
		wantTurn(t, table, 5, 3)
		table.Step(1)
		wantParted(t, table, 3, -1, -1)
		wantTurn(t, table, 3, 7, low[0], low[1], low[2], low[3])
		wantTurn(t, table, 7, 0, high[0], high[1], high[3], high[2])
	}
}

// Of two places of a table that shrinks, all that they have: those that came since, and those of both that were not moved, in order.
func TestP8_1_ThreePlacesOfATableThatShrinks(t *testing.T) {
	for _, seed := range seeds {
		low, high := keysAt(seed, 5, 15, 4), keysAt(seed, 5, 31, 2)
		others := keysAt(seed, 4, 2, 20)
		table := dict.New[int](seed)
		put(table, others...)
		table.Step(math.MaxInt)
		put(table, low[0], high[0], low[1])
		drop(table, others...)
		wantParted(t, table, 5, 0, 4)
		put(table, high[1], low[2], low[3])
		wantParted(t, table, 5, 3, 4)
		for _, c := range []uint64{15, 31, 47, math.MaxUint64, 1<<63 + 15} {
			wantTurn(t, table, c, 0, low[3], low[2], high[1], low[1], low[0], high[0])
		}
		wantTurn(t, table, 0, 8)
		wantTurn(t, table, 2, 10)
		wantTurn(t, table, 23, 15)
		table.Step(13)
		wantParted(t, table, 5, 16, 4)
		wantTurn(t, table, 15, 0, low[0], low[1], low[3], low[2], high[1], high[0])
		table.Step(16)
		wantParted(t, table, 4, -1, -1)
		wantTurn(t, table, 15, 0, high[0], low[0], low[1], low[3], low[2], high[1])
	}
}

// A table of the greatest size, and both ways between it and the one below it.
func TestP8_1_TheGreatestSize(t *testing.T) {
	table := grown(t, 1, 15)
	look := func() {
		t.Helper()
		for i := range uint64(1 << 10) {
			for _, c := range []uint64{i, i << 6, i<<6 | 63, math.MaxUint64 - i} {
				wantMeantTurn(t, table, c)
			}
		}
	}
	look()
	table.Step(20000)
	wantParted(t, table, 15, 20000, 16)
	look()
	table.Step(math.MaxInt)
	wantParted(t, table, 16, -1, -1)
	look()
	wantMeantScan(t, table, 0, math.MaxInt)
	for i := 0; table.Toward() < 0; i++ {
		table.Drop(nth(i))
	}
	wantParted(t, table, 16, 0, 15)
	look()
	table.Step(40000)
	put(table, numbered(5000)...)
	wantParted(t, table, 16, 45000, 15)
	look()
	wantMeantScan(t, table, 0, math.MaxInt)
}

// The chapter's example: four turns are made, and tell nothing.
func TestP8_2_AnEmptyTable(t *testing.T) {
	for _, seed := range seeds {
		for _, table := range []*dict.Table[int]{dict.New[int](seed), filled(seed, 0)} {
			wantScan(t, table, 0, 1, 0)
			wantTurn(t, table, 0, 2)
			wantTurn(t, table, 2, 1)
			wantTurn(t, table, 1, 3)
			wantTurn(t, table, 3, 0)
			for _, n := range counts() {
				for _, c := range cursors(2) {
					wantScan(t, table, c, n, 0)
				}
			}
			put(table, "a")
			wantScan(t, table, 0, 5, 0, "a")
			table.Drop("a")
			wantScan(t, table, 0, 1, 0)
		}
	}
}

// A table that was emptied stands as a new one.
func TestP8_2_AClearedTable(t *testing.T) {
	for _, table := range []*dict.Table[int]{filled(1, 100), grown(t, 1, 5), shrunk(t, 1, 6)} {
		cursor, keys := scan.Scan(table, 0, 1)
		if cursor == 0 || len(keys) == 0 {
			t.Fatalf("Scan tells %#x, %q", cursor, keys)
		}
		table.Clear()
		wantTurn(t, table, 0, 2)
		for _, n := range counts() {
			wantScan(t, table, cursor, n, 0)
			wantScan(t, table, math.MaxUint64, n, 0)
		}
		wantPick(t, table, 0, "", false)
	}
}

// What New did not give stands as New(0); a nil table has nothing.
func TestP8_2_TablesThatNobodyMade(t *testing.T) {
	for _, n := range counts() {
		for _, c := range append(cursors(3), cursors(0)...) {
			wantTurn[int](t, nil, c, 0)
			wantScan[int](t, nil, c, n, 0)
			wantPick[int](t, nil, c, "", false)
			zero, made := new(dict.Table[int]), dict.New[int](0)
			for range 2 {
				next, keys := scan.Turn(made, c)
				wantTurn(t, zero, c, next, keys...)
				next, keys = scan.Scan(made, c, n)
				wantScan(t, zero, c, n, next, keys...)
				key, ok := scan.Pick(made, c)
				wantPick(t, zero, c, key, ok)
				put(zero, numbered(6)...)
				put(made, numbered(6)...)
			}
		}
	}
}

func TestP8_2_ScansAtEachCursor(t *testing.T) {
	tables := 0
	eachTable(t, 1, func(table *dict.Table[int]) {
		tables++
		n := counts()[tables%len(counts()):]
		for i, c := range cursors(lesser(table)) {
			wantMeantScan(t, table, c, n[i%len(n)])
			wantMeantScan(t, table, c, table.Len()-i%3)
		}
	})
	for _, n := range counts() {
		for _, c := range cursors(4) {
			wantMeantScan(t, filled(0, 13), c, n)
			wantMeantScan(t, grown(t, 0, 4), c, n)
			wantMeantScan(t, shrunk(t, 0, 5), c, n)
		}
	}
}

// Turns end with the one by which there are count keys, or more: a turn's keys are told whole.
func TestP8_2_ManyKeysAtOnePlace(t *testing.T) {
	for _, seed := range seeds {
		l := slices.Concat(keysAt(seed, 3, 4, 4), keysAt(seed, 3, 5, 1), keysAt(seed, 3, 3, 2))
		table := dict.New[int](seed)
		put(table, l...)
		table.Step(math.MaxInt)
		wantParted(t, table, 3, -1, -1)
		_, at4 := meantTurn(table, 4)
		_, at3 := meantTurn(table, 3)
		// The cursors are 0, 4, 2, 6, 1, 5, 3, 7.
		for n := -1; n < 5; n++ {
			wantScan(t, table, 0, n, 2, at4...)
		}
		wantScan(t, table, 0, 5, 3, slices.Concat(at4, l[4:5])...)
		wantScan(t, table, 0, 6, 7, slices.Concat(at4, l[4:5], at3)...)
		wantScan(t, table, 0, 7, 7, slices.Concat(at4, l[4:5], at3)...)
		wantScan(t, table, 0, 8, 0, slices.Concat(at4, l[4:5], at3)...)
		wantScan(t, table, 2, 1, 3, l[4])
		wantScan(t, table, 2, 2, 7, slices.Concat(l[4:5], at3)...)
		wantScan(t, table, 3, 2, 7, at3...)
		wantScan(t, table, 3, 3, 0, at3...)
		wantScan(t, table, 7, 1, 0)
		wantScan(t, table, 6, 0, 3, l[4])
	}
}

// emptied is a table without a key that is parted from size 16 toward 15: 32768 turns are made from 0 on till 0 is told.
func emptied(t *testing.T) *dict.Table[int] {
	t.Helper()
	table := grown(t, 1, 15)
	table.Step(math.MaxInt)
	drop(table, numbered(1<<15+1)...)
	wantParted(t, table, 16, 8191, 15)
	if n := table.Len(); n != 0 {
		t.Fatalf("there are %d keys", n)
	}
	return table
}

// at is the cursor behind so many turns from 0 on, in the places of a size.
func at(turns, size int) uint64 {
	s := strings.Repeat("0", size) + strconv.FormatInt(int64(turns), 2)
	return cursorOf(s[len(s)-size:])
}

// No more than ten times count turns are made.
func TestP8_2_NoMoreTurns(t *testing.T) {
	table := emptied(t)
	for _, n := range []int{math.MinInt, -1, 0, 1} {
		wantScan(t, table, 0, n, at(10, 15))
		wantScan(t, table, 0xfedc_ba98_7654_0000, n, at(10, 15))
		wantScan(t, table, 1<<15, n, at(10, 15))
		wantScan(t, table, at(10, 15), n, at(20, 15))
	}
	for _, n := range []int{2, 3, 7, 10, 99, 100, 1000, 3275, 3276} {
		wantScan(t, table, 0, n, at(10*n, 15))
	}
	wantScan(t, table, at(8, 15), 3276, 0)
	wantScan(t, table, at(7, 15), 3276, at(7+32760, 15))
	for _, n := range append(counts(), 3277) {
		if n >= 3277 {
			wantScan(t, table, 0, n, 0)
		}
	}
}

// What few keys there are is told with the turns that are made; the last one of them, if it has the key, counts.
func TestP8_2_NoMoreTurnsWithFewKeys(t *testing.T) {
	for _, x := range []struct {
		turn, count int
		found       bool
	}{{0, 2, true}, {1, 3, true}, {19, 2, true}, {20, 2, false}, {29, 3, true}, {30, 3, false}, {9, 1, true}, {10, 1, false}, {999, 100, true}, {1000, 100, false}} {
		table := emptied(t)
		key := keysAt(1, 15, int(at(x.turn, 15)), 1)
		put(table, key...)
		next := at(10*x.count, 15)
		if !x.found {
			key = nil
		}
		wantScan(t, table, 0, x.count, next, key...)
	}
}

// So many keys that a count of 100000, and one above it, end ahead of 0.
func TestP8_2_GreatCounts(t *testing.T) {
	table := filled(0, 150000)
	wantParted(t, table, 16, -1, -1)
	for _, n := range []int{99999, 100000, 100001, 100002, 149000} {
		wantMeantScan(t, table, 0, n)
		if next, keys := scan.Scan(table, 0, n); len(keys) < n || next == 0 {
			t.Errorf("Scan of %d tells %d keys, and %#x", n, len(keys), next)
		}
	}
	for _, n := range []int{150001, 1000000, math.MaxInt32, 1 << 60, math.MaxInt/10 + 1, math.MaxInt} {
		next, keys := scan.Scan(table, 0, n)
		if len(keys) != 150000 || next != 0 {
			t.Errorf("Scan of %d tells %d keys, and %#x", n, len(keys), next)
		}
	}
}

func TestP8_3_PickGoesByKeys(t *testing.T) {
	for _, seed := range seeds {
		eachTable(t, seed, func(table *dict.Table[int]) {
			for n := range uint64(2*table.Len() + 3) {
				wantMeantPick(t, table, n)
			}
			for _, n := range []uint64{1 << 31, 1 << 32, 1<<63 - 1, 1 << 63, 1<<63 + 1, math.MaxUint64 - 1, math.MaxUint64} {
				wantMeantPick(t, table, n)
			}
		})
	}
}

func TestP8_3_PickOfNothingAndOfTheEmptyKey(t *testing.T) {
	for _, n := range []uint64{0, 1, 2, 1 << 32, 1 << 63, math.MaxUint64} {
		table := dict.New[int](1)
		wantPick(t, table, n, "", false)
		table.Put("", 7)
		wantPick(t, table, n, "", true)
		table.Drop("")
		wantPick(t, table, n, "", false)
		wantPick(t, emptied(t), n, "", false)
	}
}

func TestP8_3_KeysOfOddBytes(t *testing.T) {
	for _, seed := range seeds {
		table := dict.New[int](seed)
		put(table, oddKeys...)
		for steps := range 20 {
			_, keys := scan.Scan(table, 0, math.MaxInt)
			wantSameKeys(t, "Scan", keys, oddKeys)
			var picked []string
			for n := range oddKeys {
				key, ok := scan.Pick(table, uint64(n))
				if !ok {
					t.Fatalf("Pick of %d, behind %d steps, tells nothing", n, steps)
				}
				picked = append(picked, key)
			}
			wantSameKeys(t, "Pick", picked, oddKeys)
			for c := range uint64(8) {
				wantMeantTurn(t, table, c)
			}
			table.Step(1)
		}
	}
}

// wantSameKeys holds keys against others, in whichever order.
func wantSameKeys(t *testing.T, what string, keys, want []string) {
	t.Helper()
	if !slices.Equal(slices.Sorted(slices.Values(keys)), slices.Sorted(slices.Values(want))) {
		t.Fatalf("%s tells %d keys, %.40q; want %d, %.40q", what, len(keys), short(keys), len(want), short(want))
	}
}

// Of values of any kind, such as can't be compared, too.
func TestP8_1_ValuesOfAnyKind(t *testing.T) {
	wantAsInts(t, "")
	wantAsInts(t, struct{}{})
	wantAsInts(t, []string{"a"})
	wantAsInts(t, func() {})
	wantAsInts(t, map[string]int(nil))
	wantAsInts(t, any(nil))
	wantAsInts(t, dict.New[int](0))
}

// wantAsInts holds a table of some kind of values against one of ints.
func wantAsInts[V any](t *testing.T, v V) {
	t.Helper()
	table, ints := dict.New[V](1), dict.New[int](1)
	for i := range 40 {
		for c := range uint64(40) {
			next, keys := scan.Turn(ints, c)
			wantTurn(t, table, c, next, keys...)
			next, keys = scan.Scan(ints, c, int(c))
			wantScan(t, table, c, int(c), next, keys...)
			key, ok := scan.Pick(ints, c)
			wantPick(t, table, c, key, ok)
		}
		table.Put(nth(i), v)
		ints.Put(nth(i), i)
	}
	wantTurn[V](t, nil, 1, 0)
	wantScan[V](t, nil, 1, 1, 0)
	wantPick[V](t, nil, 1, "", false)
}

// stand is how a table stands, with all that it has.
type stand struct {
	size, moved, toward int
	old, fresh          [][]string
	values              map[string]int
}

func standOf(table *dict.Table[int]) stand {
	s := stand{size: table.Size(), moved: table.Moved(), toward: table.Toward(), values: map[string]int{}}
	for place := range 1 << s.size {
		s.old = append(s.old, table.Chain(true, place))
	}
	for place := range 1 << max(s.toward, 0) {
		s.fresh = append(s.fresh, table.Chain(false, place))
	}
	for _, k := range table.Keys() {
		v, ok := table.Get(k)
		if !ok {
			v = -1
		}
		s.values[k] = v
	}
	return s
}

func (s stand) same(o stand) bool {
	for k, v := range s.values {
		if w, ok := o.values[k]; !ok || w != v {
			return false
		}
	}
	return s.size == o.size && s.moved == o.moved && s.toward == o.toward && len(s.values) == len(o.values) &&
		slices.EqualFunc(s.old, o.old, slices.Equal) && slices.EqualFunc(s.fresh, o.fresh, slices.Equal)
}

// No call turns anything, steps neither; and what is told is no list that is told again, or that the table has.
func TestP8_1_NothingIsTurned(t *testing.T) {
	eachTable(t, 1, func(table *dict.Table[int]) {
		before := standOf(table)
		for c := range uint64(1) << lesser(table) {
			next, keys := scan.Turn(table, c)
			first := slices.Clone(keys)
			spoil(keys)
			wantTurn(t, table, c, next, first...)
			next, keys = scan.Scan(table, c, int(c))
			first = slices.Clone(keys)
			spoil(keys)
			wantScan(t, table, c, int(c), next, first...)
			key, ok := scan.Pick(table, c)
			wantPick(t, table, c, key, ok)
		}
		if !standOf(table).same(before) {
			t.Fatalf("the table stands otherwise: %s", how(table))
		}
	})
}

// spoil writes over a list, its spare room too.
func spoil(l []string) {
	l = l[:cap(l)]
	for i := range l {
		l[i] = "spoilt"
	}
}
