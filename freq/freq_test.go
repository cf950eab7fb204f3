package freq_test

import (
	"fmt"
	"runtime"
	"slices"
	"strconv"
	"strings"
	"testing"

	"mews/freq"
)

// odd are keys that are nothing, or have odd bytes; no two are one.
var odd = []string{"", "\x00", "\x00\x00", "\x00a", "\n", "\r\n", " ", "10", "9", "A", "B", "a", "a\x00", "aa", "ab", "b", "\x7f", "\x80", "\x80a", "\xc3\x28", "é", "e\u0301", "\xef\xbf\xbd", "\U00010000", "\U0010ffff", "\xff", "\xff\x00", "\xff\xff"}

// nth are keys, of which no two are one.
func nth(i int) string { return "k" + strconv.Itoa(i) }

// many are n keys.
func many(n int) []string {
	l := make([]string, n)
	for i := range l {
		l[i] = nth(i)
	}
	return l
}

// rolled gives numbers below n that look as if they were thrown; of one seed always the same ones.
func rolled(seed uint64) func(n int) int {
	return func(n int) int {
		seed = seed*6364136223846793005 + 1442695040888963407
		return int((seed ^ seed>>29) >> 11 % uint64(n))
	}
}

// mixed are keys in some order of a seed.
func mixed(seed uint64, l []string) []string {
	l = slices.Clone(l)
	next := rolled(seed)
	for i := range l {
		j := i + next(len(l)-i)
		l[i], l[j] = l[j], l[i]
	}
	return l
}

func turned(l []string) []string {
	l = slices.Clone(l)
	slices.Reverse(l)
	return l
}

// orders are some orders of keys.
func orders(l []string) map[string][]string {
	return map[string][]string{
		"as they are": l,
		"turned":      turned(l),
		"mixed":       mixed(1, l),
		"other":       mixed(2, l),
		"halves":      append(slices.Clone(l[len(l)/2:]), l[:len(l)/2]...),
	}
}

// filled is a book of keys that were touched, one behind the other, once each.
func filled(t *testing.T, keys ...string) *freq.Book {
	t.Helper()
	b := freq.New()
	for _, key := range keys {
		want(t, "Touch", b.Touch(key), 1, key)
	}
	return b
}

// touchAll touches keys, one behind the other.
func touchAll(b calls, keys ...string) {
	for _, key := range keys {
		b.Touch(key)
	}
}

// touchTo touches a key as often as a count says.
func touchTo(b calls, key string, count int) {
	for range count {
		b.Touch(key)
	}
}

// without are keys but for one.
func without(l []string, key string) []string {
	return slices.DeleteFunc(slices.Clone(l), func(x string) bool { return x == key })
}

// told is how things are shown: of very many the first ones.
func told(x any) string {
	s := fmt.Sprintf("%#v", x)
	return s[:min(len(s), 600)]
}

// want holds what a call with some arguments answered against what it should.
func want[V comparable](t *testing.T, call string, got, meant V, args ...any) {
	if got != meant {
		t.Helper()
		t.Fatalf("%s of %s: %s; want %s", call, told(args), told(got), told(meant))
	}
}

// wantList holds keys that were told against what they should be.
func wantList(t *testing.T, what string, l []string, meant ...string) {
	if !slices.Equal(l, meant) {
		t.Helper()
		t.Fatalf("%s: %s; want %s", what, told(l), told(meant))
	}
}

// wantLeast asks for the least key: of those that are meant, in order.
func wantLeast(t *testing.T, b calls, all []string) {
	meant := ""
	if len(all) > 0 {
		meant = all[0]
	}
	if key, ok := b.Least(); key != meant || ok != (len(all) > 0) {
		t.Helper()
		t.Fatalf("Least: %q, %v; want %q, %v", key, ok, meant, len(all) > 0)
	}
}

// wantAll holds all that a book tells, without a change, against its keys, in order.
func wantAll(t *testing.T, b calls, all ...string) {
	t.Helper()
	want(t, "Len", b.Len(), len(all))
	wantList(t, "All", b.All(), all...)
	wantLeast(t, b, all)
	last := 1
	for _, key := range all {
		count := b.Count(key)
		if count < last || count > freq.Most {
			t.Fatalf("Count of %q: %d, behind a key of %d", key, count, last)
		}
		last = count
	}
}

// wantSame holds all that a book tells, without a change, against the model.
func wantSame(t *testing.T, b calls, m *model) {
	t.Helper()
	all := m.All()
	wantAll(t, b, all...)
	for _, key := range all {
		want(t, "Count", b.Count(key), m.Count(key), key)
	}
}

// wantNone asks for keys that are not there.
func wantNone(t *testing.T, b calls, keys ...string) {
	t.Helper()
	for _, key := range keys {
		want(t, "Count", b.Count(key), 0, key)
		want(t, "Drop", b.Drop(key), false, key)
	}
}

// drain lets all keys go, the least one each time: they are those that are meant, in order.
func drain(t *testing.T, b calls, all ...string) {
	t.Helper()
	for i, key := range all {
		wantLeast(t, b, all[i:])
		want(t, "Drop", b.Drop(key), true, key)
		want(t, "Count", b.Count(key), 0, key)
		want(t, "Len", b.Len(), len(all)-i-1)
	}
	wantAll(t, b)
	want(t, "Halve", b.Halve(), 0)
	wantAll(t, b)
}

func TestP13_1_NewIsEmpty(t *testing.T) {
	want(t, "Most", freq.Most, 255)
	for range 3 {
		b := freq.New()
		if b == nil {
			t.Fatal("New: nil")
		}
		wantAll(t, b)
		wantNone(t, b, odd...)
		want(t, "Halve", b.Halve(), 0)
		wantAll(t, b)
		want(t, "Touch", b.Touch(""), 1)
		wantAll(t, b, "")
	}
}

func TestP13_1_ByHand(t *testing.T) {
	const touch, drop, halve = 0, 1, 2
	b := freq.New()
	for i, x := range []struct {
		do     int
		key    string
		answer int // of a Drop: 1 for true
		all    []string
		counts []int
	}{
		{drop, "a", 0, nil, nil},
		{touch, "b", 1, []string{"b"}, []int{1}},
		{touch, "b", 2, []string{"b"}, []int{2}},
		{drop, "a", 0, []string{"b"}, []int{2}},
		{touch, "a", 1, []string{"a", "b"}, []int{1, 2}},
		{touch, "a", 2, []string{"b", "a"}, []int{2, 2}},
		{touch, "c", 1, []string{"c", "b", "a"}, []int{1, 2, 2}},
		{touch, "", 1, []string{"c", "", "b", "a"}, []int{1, 1, 2, 2}},
		{touch, "b", 3, []string{"c", "", "a", "b"}, []int{1, 1, 2, 3}},
		{touch, "c", 2, []string{"", "a", "c", "b"}, []int{1, 2, 2, 3}},
		{drop, "d", 0, []string{"", "a", "c", "b"}, []int{1, 2, 2, 3}},
		{drop, "a\x00", 0, []string{"", "a", "c", "b"}, []int{1, 2, 2, 3}},
		{drop, "", 1, []string{"a", "c", "b"}, []int{2, 2, 3}},
		{drop, "", 0, []string{"a", "c", "b"}, []int{2, 2, 3}},
		{touch, "a", 3, []string{"c", "b", "a"}, []int{2, 3, 3}},
		{touch, "", 1, []string{"", "c", "b", "a"}, []int{1, 2, 3, 3}},
		{halve, "", 3, []string{"b", "c", "a", ""}, []int{1, 1, 1, 1}},
		{halve, "", 0, []string{"b", "c", "a", ""}, []int{1, 1, 1, 1}},
		{touch, "b", 2, []string{"c", "a", "", "b"}, []int{1, 1, 1, 2}},
		{drop, "a", 1, []string{"c", "", "b"}, []int{1, 1, 2}},
		{drop, "b", 1, []string{"c", ""}, []int{1, 1}},
		{touch, "b", 1, []string{"c", "", "b"}, []int{1, 1, 1}},
		{touch, "", 2, []string{"c", "b", ""}, []int{1, 1, 2}},
		{touch, "", 3, []string{"c", "b", ""}, []int{1, 1, 3}},
		{touch, "", 4, []string{"c", "b", ""}, []int{1, 1, 4}},
		{touch, "", 5, []string{"c", "b", ""}, []int{1, 1, 5}},
		{touch, "c", 2, []string{"b", "c", ""}, []int{1, 2, 5}},
		{halve, "", 2, []string{"b", "c", ""}, []int{1, 1, 2}},
		{halve, "", 1, []string{"b", "", "c"}, []int{1, 1, 1}},
	} {
		answer := 0
		switch x.do {
		case touch:
			answer = b.Touch(x.key)
		case drop:
			if b.Drop(x.key) {
				answer = 1
			}
		case halve:
			answer = b.Halve()
		}
		want(t, "the step", answer, x.answer, i, x.key)
		wantAll(t, b, x.all...)
		for j, key := range x.all {
			want(t, "Count", b.Count(key), x.counts[j], i, key)
		}
		wantNone(t, b, "d", "A", "a\x00", " ", "ab")
	}
}

// A key is touched as often as the greatest count, and beyond: alone, and beside others.
func TestP13_1_UpToTheGreatestCount(t *testing.T) {
	for _, others := range [][]string{nil, {"b"}, {"", "b", "c"}} {
		b := filled(t, others...)
		for i := range 600 {
			want(t, "Touch", b.Touch("a"), min(i+1, 255), i)
			want(t, "Count", b.Count("a"), min(i+1, 255), i)
			wantAll(t, b, append(slices.Clone(others), "a")...)
		}
		want(t, "Drop", b.Drop("a"), true)
		wantAll(t, b, others...)
		want(t, "Touch", b.Touch("a"), 1)
		wantAll(t, b, append(slices.Clone(others), "a")...)
	}
}

// Keys of the greatest count stand by when they were touched last, as others do.
func TestP13_1_KeysOfTheGreatestCount(t *testing.T) {
	keys := append(many(5), "")
	for _, came := range orders(keys) {
		b, row := freq.New(), came
		for _, key := range came {
			touchTo(b, key, 255)
		}
		wantAll(t, b, row...)
		for _, again := range orders(keys) {
			for _, key := range again {
				row = append(without(row, key), key)
				want(t, "Touch", b.Touch(key), 255, key)
				wantAll(t, b, row...)
			}
		}
		drain(t, b, row...)
	}
}

// Of so many keys of one count each one is touched again: the least one, the last one, the only one, one between.
func TestP13_1_TouchOfEach(t *testing.T) {
	for n := 1; n <= 30; n++ {
		for _, keys := range orders(many(n)) {
			for _, key := range keys {
				b := filled(t, keys...)
				meant := append(without(keys, key), key)
				for i := range 3 {
					want(t, "Touch", b.Touch(key), i+2, key)
					want(t, "Count", b.Count(key), i+2, key)
					wantAll(t, b, meant...)
				}
				wantNone(t, b, "", "k", key+"\x00", nth(n), nth(-1))
				for _, other := range without(keys, key) {
					want(t, "Count", b.Count(other), 1, other)
				}
				drain(t, b, meant...)
			}
		}
	}
}

// A key comes to the end of the row of its count, be that there, or not; the row that it leaves stays in order, or has no key any more.
func TestP13_1_FromRowToRow(t *testing.T) {
	b, m := freq.New(), new(model)
	for i, key := range []string{"a", "b", "c", "a", "b", "c", "d", "c", "d", "d", "d", "d", "a", "a", "b", "", "b", "c", "", "d", "a", "", ""} {
		want(t, "Touch", b.Touch(key), m.Touch(key), i, key)
		wantSame(t, b, m)
	}
	wantAll(t, b, "b", "c", "", "a", "d")
}

// From so many keys, of one count or of many, each one is dropped, and comes again as one that is new; another one is not there.
func TestP13_1_DropOfEach(t *testing.T) {
	for n := 1; n <= 24; n++ {
		for _, span := range []int{1, 2, 3, n} {
			for _, keys := range orders(many(n)) {
				for _, key := range keys {
					b, m := freq.New(), new(model)
					for i, other := range keys {
						touchTo(b, other, i%span+1)
						touchTo(m, other, i%span+1)
					}
					wantNone(t, b, "", "k", key+"\x00", nth(n), nth(-1))
					want(t, "Drop", b.Drop(key), m.Drop(key), key)
					wantNone(t, b, key)
					wantSame(t, b, m)
					want(t, "Touch", b.Touch(key), m.Touch(key), key)
					wantSame(t, b, m)
					drain(t, b, m.All()...)
				}
			}
		}
	}
}

// From so many keys all but one are dropped, from either end, or toward it from both.
func TestP13_1_AllButOneGo(t *testing.T) {
	for n := 1; n <= 20; n++ {
		keys := many(n)
		for left, key := range keys {
			for _, drops := range orders(keys) {
				b, rest := filled(t, keys...), keys
				touchTo(b, key, left)
				for _, other := range drops {
					if other != key {
						rest = without(rest, other)
						want(t, "Drop", b.Drop(other), true, other)
						want(t, "Len", b.Len(), len(rest))
					}
				}
				wantAll(t, b, key)
				want(t, "Count", b.Count(key), left+1)
				want(t, "Touch", b.Touch(key), left+2)
				wantAll(t, b, key)
				drain(t, b, key)
			}
		}
	}
}

// Of each count there is a key: they stand by their counts, whenever they were touched.
func TestP13_1_AKeyOfEachCount(t *testing.T) {
	keys := many(255)
	for _, came := range orders(keys) {
		b := freq.New()
		for _, key := range came {
			touchTo(b, key, 1+slices.Index(keys, key))
		}
		wantAll(t, b, keys...)
		for i, key := range keys {
			want(t, "Count", b.Count(key), i+1, key)
		}
		drain(t, b, keys...)
	}
}

// Keys are told apart by all their bytes, be these text or not, and come back as they were given.
func TestP13_1_OddKeys(t *testing.T) {
	for i, key := range odd {
		b := filled(t, key)
		wantAll(t, b, key)
		wantNone(t, b, without(odd, key)...)
		want(t, "Touch", b.Touch(key), 2, i)
		wantAll(t, b, key)
		want(t, "Halve", b.Halve(), 1)
		wantAll(t, b, key)
		wantNone(t, b, without(odd, key)...)
	}
	for _, keys := range orders(odd) {
		b := filled(t, keys...)
		wantAll(t, b, keys...)
		for i, key := range keys {
			want(t, "Touch", b.Touch(key), 2, key)
			wantAll(t, b, append(slices.Clone(keys[i+1:]), keys[:i+1]...)...)
		}
		want(t, "Halve", b.Halve(), len(keys))
		wantAll(t, b, keys...)
		drain(t, b, keys...)
	}
}

// Keys that differ far behind their beginnings alone are told apart.
func TestP13_1_LongKeys(t *testing.T) {
	long := strings.Repeat("x", 1<<16)
	keys := []string{long, long + "\x00", long + "a", long + "b", long + "\xff", long + long}
	for _, l := range orders(keys) {
		b := filled(t, l...)
		wantAll(t, b, l...)
		wantNone(t, b, long[1:], long+"c", "")
		want(t, "Touch", b.Touch(l[2]), 2)
		wantAll(t, b, l[0], l[1], l[3], l[4], l[5], l[2])
		want(t, "Halve", b.Halve(), 1)
		wantAll(t, b, l[0], l[1], l[3], l[4], l[5], l[2])
	}
}

func TestP13_1_TwoBooksAreApart(t *testing.T) {
	one, two := freq.New(), freq.New()
	one.Touch("a")
	two.Touch("b")
	two.Touch("a")
	two.Touch("a")
	wantAll(t, one, "a")
	want(t, "Count", one.Count("a"), 1)
	wantAll(t, two, "b", "a")
	want(t, "Halve", one.Halve(), 0)
	want(t, "Count", two.Count("a"), 2)
	want(t, "Drop", two.Drop("a"), true)
	wantAll(t, one, "a")
	one.Touch("c")
	wantAll(t, two, "b")
	want(t, "Drop", one.Drop("b"), false)
	wantAll(t, one, "a", "c")
}

func TestP13_2_TheExample(t *testing.T) {
	b := freq.New()
	want(t, "Touch", b.Touch("a"), 1)
	want(t, "Touch", b.Touch("a"), 2)
	want(t, "Touch", b.Touch("b"), 1)
	want(t, "Touch", b.Touch("c"), 1)
	wantAll(t, b, "b", "c", "a")
	want(t, "Halve", b.Halve(), 1)
	wantAll(t, b, "a", "b", "c")
}

// Of each count the half is what it should be, rounded down, but at least 1; halved again and again it is 1.
func TestP13_2_HalvesOfEachCount(t *testing.T) {
	for _, x := range []struct{ count, half int }{{1, 1}, {2, 1}, {3, 1}, {4, 2}, {5, 2}, {6, 3}, {7, 3}, {8, 4}, {9, 4}, {127, 63}, {128, 64}, {129, 64}, {253, 126}, {254, 127}, {255, 127}, {256, 127}, {300, 127}} {
		b := freq.New()
		touchTo(b, "a", x.count)
		want(t, "Halve", b.Halve(), min(x.count-1, 1), x.count)
		want(t, "Count", b.Count("a"), x.half, x.count)
		wantAll(t, b, "a")
		want(t, "Touch", b.Touch("a"), x.half+1, x.count)
	}
	for count := 1; count <= 255; count++ {
		b := freq.New()
		b.Touch("")
		touchTo(b, "a", count)
		for half := count; half > 1; {
			want(t, "Halve", b.Halve(), 1, count)
			half = (half - half%2) / 2
			want(t, "Count", b.Count("a"), half, count)
			wantAll(t, b, "", "a")
		}
		for range 2 {
			want(t, "Halve", b.Halve(), 0, count)
			want(t, "Count", b.Count("a"), 1, count)
			want(t, "Count", b.Count(""), 1, count)
			wantAll(t, b, "", "a")
		}
	}
}

// Of two keys, whatever their counts, behind Halve that of the lesser half is ahead, and of one half the one that was touched longer ago.
func TestP13_2_TwoKeysOfEachCount(t *testing.T) {
	counts := []int{1, 2, 3, 4, 5, 6, 7, 8, 9, 10, 11, 126, 127, 128, 129, 252, 253, 254, 255}
	for _, one := range counts {
		for _, other := range counts {
			b := freq.New()
			touchTo(b, "a", one)
			touchTo(b, "b", other)
			if one > other {
				wantAll(t, b, "b", "a")
			} else {
				wantAll(t, b, "a", "b")
			}
			want(t, "Halve", b.Halve(), min(one-1, 1)+min(other-1, 1), one, other)
			if max(one/2, 1) > max(other/2, 1) {
				wantAll(t, b, "b", "a")
			} else {
				wantAll(t, b, "a", "b")
			}
			want(t, "Count", b.Count("a"), max(one/2, 1), one, other)
			want(t, "Count", b.Count("b"), max(other/2, 1), one, other)
		}
	}
}

// Rows that come together: the keys of all stand as they were touched last, though they were in rows beside one another.
func TestP13_2_RowsThatComeTogether(t *testing.T) {
	for _, x := range []struct {
		counts []int // of the keys in turn
		half   int
	}{{[]int{1, 2, 3}, 1}, {[]int{4, 5}, 2}, {[]int{7, 6}, 3}, {[]int{254, 255}, 127}, {[]int{3, 1}, 1}, {[]int{2, 1}, 1}, {[]int{3, 2}, 1}} {
		for n := len(x.counts); n < 14; n++ {
			for _, last := range orders(many(n)) {
				b := freq.New()
				less := 0
				for i, key := range many(n) {
					touchTo(b, key, x.counts[i%len(x.counts)]-1)
					if x.counts[i%len(x.counts)] > 1 {
						less++
					}
				}
				touchAll(b, last...)
				want(t, "Halve", b.Halve(), less, x.counts)
				wantAll(t, b, last...)
				for _, key := range last {
					want(t, "Count", b.Count(key), x.half, key)
				}
				drain(t, b, last...)
			}
		}
	}
}

// Of the greatest count, touched beyond it, too, rows that come together stand by the touches that turned no count.
func TestP13_2_TouchesThatTurnNoCount(t *testing.T) {
	b := freq.New()
	touchTo(b, "a", 255)
	touchTo(b, "b", 254)
	wantAll(t, b, "b", "a")
	touchTo(b, "a", 2)
	want(t, "Halve", b.Halve(), 2)
	wantAll(t, b, "b", "a")
	want(t, "Touch", b.Touch("b"), 128)
	want(t, "Touch", b.Touch("a"), 128)
	wantAll(t, b, "b", "a")

	b = freq.New()
	touchTo(b, "a", 300)
	touchTo(b, "c", 255)
	touchTo(b, "b", 254)
	b.Touch("a")
	wantAll(t, b, "b", "c", "a")
	want(t, "Halve", b.Halve(), 3)
	wantAll(t, b, "c", "b", "a")
}

// Halved as often as it takes, all counts are 1, and keys stand by when they were touched last alone.
func TestP13_2_HalvedToTheEnd(t *testing.T) {
	for seed := range uint64(40) {
		next := rolled(seed)
		b, m := freq.New(), new(model)
		keys := append(many(12), "")
		for range 1 + next(4000) {
			key := keys[min(next(13), next(13))]
			want(t, "Touch", b.Touch(key), m.Touch(key), key)
		}
		last := make(map[string]int)
		for key, x := range m.keys {
			last[key] = x.last
		}
		for range 8 {
			want(t, "Halve", b.Halve(), m.Halve())
			wantSame(t, b, m)
		}
		want(t, "Halve", b.Halve(), 0)
		all := b.All()
		if !slices.IsSortedFunc(all, func(a, b string) int { return last[a] - last[b] }) {
			t.Fatalf("keys do not stand by their last touches: %q", all)
		}
		drain(t, b, m.All()...)
	}
}

// Behind Halve, once or twice, each key is touched, or dropped.
func TestP13_2_AChangeBehindHalve(t *testing.T) {
	const n = 9
	for _, keys := range orders(append(many(n-1), "")) {
		for _, key := range append(keys, "new") {
			for halves := range 3 {
				for _, drop := range []bool{true, false} {
					b, m := freq.New(), new(model)
					for _, x := range []calls{b, m} {
						for i, other := range keys {
							touchTo(x, other, 1+i*5%n)
						}
						for range halves {
							x.Halve()
						}
						if drop {
							x.Drop(key)
						} else {
							x.Touch(key)
						}
					}
					wantSame(t, b, m)
					want(t, "Halve", b.Halve(), m.Halve())
					wantSame(t, b, m)
					want(t, "Touch", b.Touch(key), m.Touch(key), key)
					wantSame(t, b, m)
					drain(t, b, m.All()...)
				}
			}
		}
	}
}

// What was told stays as it is, whatever befalls the book; and the book stays as it is, whatever befalls what was told.
func TestP13_2_WhatWasToldStays(t *testing.T) {
	for n := range 30 {
		keys := many(n)
		b := filled(t, keys...)
		all, again := b.All(), b.All()
		for i := range again {
			again[i] = "spoilt"
		}
		_ = append(again[:len(again)/2], "more", "yet more")
		wantAll(t, b, keys...)
		for i, key := range turned(keys) {
			b.Touch(key)
			b.Touch(nth(n + i))
			b.Drop(nth(i))
			b.Halve()
		}
		wantList(t, "All, told ahead", all, keys...)
	}
}

// A nil book has nothing, and takes nothing.
func TestP13_2_ANilBook(t *testing.T) {
	var b *freq.Book
	for range 2 {
		wantAll(t, b)
		wantNone(t, b, odd...)
		for _, key := range odd {
			want(t, "Touch", b.Touch(key), 0, key)
			want(t, "Count", b.Count(key), 0, key)
		}
		want(t, "Halve", b.Halve(), 0)
		wantAll(t, b)
	}
	if b != nil {
		t.Error("it is nil no more")
	}
}

// The zero book is an empty one, into which keys come, whatever is asked first.
func TestP13_2_TheZeroBook(t *testing.T) {
	for _, do := range []func(b *freq.Book){
		func(b *freq.Book) {},
		func(b *freq.Book) { want(t, "Len", b.Len(), 0) },
		func(b *freq.Book) { want(t, "Drop", b.Drop(""), false) },
		func(b *freq.Book) { want(t, "Count", b.Count(""), 0) },
		func(b *freq.Book) { want(t, "Halve", b.Halve(), 0) },
		func(b *freq.Book) { wantLeast(t, b, nil) },
		func(b *freq.Book) { wantList(t, "All", b.All()) },
		func(b *freq.Book) { wantAll(t, b) },
	} {
		var b freq.Book
		do(&b)
		m := new(model)
		for i := range 100 {
			key := nth(i * 7 % 60)
			want(t, "Touch", b.Touch(key), m.Touch(key), key)
			wantSame(t, &b, m)
		}
		for i := range 30 {
			want(t, "Drop", b.Drop(nth(2*i)), m.Drop(nth(2*i)), i)
			wantSame(t, &b, m)
		}
		drain(t, &b, m.All()...)
	}
}

// Whatever short sequence of calls is made, from nothing on, each answer is the one that is meant.
func TestP13_3_AllShortSequences(t *testing.T) {
	is := map[bool]int{true: 1}
	steps := []func(b calls) int{
		func(b calls) int { return b.Touch("a") },
		func(b calls) int { return b.Touch("b") },
		func(b calls) int { return b.Touch("") },
		func(b calls) int { return is[b.Drop("a")] },
		func(b calls) int { return is[b.Drop("")] },
		func(b calls) int { return b.Halve() },
		func(b calls) int { touchTo(b, "b", 3); return b.Touch("a") },
	}
	const long = 6
	all := 1
	for range long {
		all *= len(steps)
	}
	for sequence := range all {
		b, m := freq.New(), new(model)
		rest := sequence
		for range long {
			step := steps[rest%len(steps)]
			rest /= len(steps)
			want(t, "a step", step(b), step(m), sequence)
			wantLeast(t, b, m.All())
		}
		wantSame(t, b, m)
		for _, key := range []string{"a", "b", ""} {
			want(t, "Count", b.Count(key), m.Count(key), sequence, key)
		}
	}
}

// Keys are touched and dropped, and counts halved, as it comes: of few keys, or of many, that mostly come, or mostly go.
func TestP13_3_RolledCalls(t *testing.T) {
	for seed := range uint64(120) {
		next := rolled(seed)
		b, m := freq.New(), new(model)
		span, drops, halves := 1+next(60), next(6), next(3)
		for range 300 {
			key, x := nth(next(span)), next(16)
			switch {
			case x < drops:
				want(t, "Drop", b.Drop(key), m.Drop(key), key)
			case x < drops+halves:
				want(t, "Halve", b.Halve(), m.Halve())
			case x == 15:
				key = nth(next(1 + span/9))
				for range next(300) {
					want(t, "Touch", b.Touch(key), m.Touch(key), key)
				}
			default:
				want(t, "Touch", b.Touch(key), m.Touch(key), key)
			}
			wantSame(t, b, m)
		}
		for i := range span {
			want(t, "Count", b.Count(nth(i)), m.Count(nth(i)), i)
		}
		drain(t, b, m.All()...)
	}
}

// The least key is looked for among all: none has a lesser count, and of its count none was touched longer ago.
func TestP13_3_TheLeastOfAll(t *testing.T) {
	for seed := range uint64(60) {
		next := rolled(seed)
		b := freq.New()
		counts, last := map[string]int{}, map[string]int{}
		for now := range 400 {
			key := nth(next(20))
			switch next(6) {
			case 0:
				least, ok := b.Least()
				want(t, "Drop", b.Drop(least), ok, least)
				delete(counts, least)
				delete(last, least)
			default:
				counts[key]++
				last[key] = now
				want(t, "Touch", b.Touch(key), counts[key], key)
			}
			least, ok := b.Least()
			want(t, "whether there is one", ok, len(counts) > 0)
			for other, count := range counts {
				if count < counts[least] || count == counts[least] && last[other] < last[least] {
					t.Fatalf("Least: %q; %q is used less often, or longer ago", least, other)
				}
			}
		}
	}
}

// What asks turns nothing.
func TestP13_3_AskingTurnsNothing(t *testing.T) {
	keys := mixed(5, many(33))
	b, m := freq.New(), new(model)
	for i, key := range keys {
		touchTo(b, key, 1+i%7)
		touchTo(m, key, 1+i%7)
	}
	for range 5 {
		wantSame(t, b, m)
		wantNone(t, b, odd...)
	}
	want(t, "Halve", b.Halve(), m.Halve())
	for range 5 {
		wantSame(t, b, m)
		wantNone(t, b, odd...)
	}
	drain(t, b, m.All()...)
}

// A book is emptied, from its least key on or otherwise, and filled again, with the same keys and with others.
func TestP13_3_EmptiedAndFilledAgain(t *testing.T) {
	for n := 1; n <= 40; n += 3 {
		b := freq.New()
		for round, keys := range []map[string][]string{orders(many(n)), orders(many(2 * n)[n:]), orders(many(n))} {
			for _, puts := range keys {
				for _, drops := range keys {
					for _, key := range puts {
						want(t, "Touch", b.Touch(key), 1, round, key)
					}
					for _, key := range puts {
						want(t, "Touch", b.Touch(key), 2, round, key)
					}
					wantAll(t, b, puts...)
					if round == 1 {
						want(t, "Halve", b.Halve(), n)
						wantAll(t, b, puts...)
					}
					for _, key := range drops {
						want(t, "Drop", b.Drop(key), true, round, key)
					}
					wantAll(t, b)
					wantNone(t, b, puts...)
				}
			}
		}
	}
}

// Very many keys, each touched again, and every third one dropped; then they are halved, and go from the least one on.
func TestP13_3_VeryMany(t *testing.T) {
	const n = 1 << 17
	b := freq.New()
	for i := range n {
		want(t, "Touch", b.Touch(nth(i)), 1, i)
	}
	var rows [3][]string
	for i := range n {
		key := nth(i * 7919 % n)
		want(t, "Touch", b.Touch(key), 2, key)
		switch i % 3 {
		case 0:
			want(t, "Drop", b.Drop(key), true, key)
		case 1:
			want(t, "Touch", b.Touch(key), 3, key)
			rows[1] = append(rows[1], key)
		default:
			rows[0] = append(rows[0], key)
		}
		if i%3 > 0 {
			rows[2] = append(rows[2], key)
		}
	}
	wantAll(t, b, append(rows[0], rows[1]...)...)
	want(t, "Halve", b.Halve(), len(rows[2]))
	wantAll(t, b, rows[2]...)
	drain(t, b, rows[2]...)
}

// A key's count is how often it was touched since it came, as long as that is not beyond the greatest count.
func TestP13_4_CountsAreTouches(t *testing.T) {
	for seed := range uint64(20) {
		next := rolled(seed)
		b, touches := freq.New(), map[string]int{}
		for range 6000 {
			key := nth(min(next(30), next(30), next(30)))
			if next(200) == 0 {
				want(t, "Drop", b.Drop(key), touches[key] > 0, key)
				touches[key] = 0
				continue
			}
			touches[key]++
			want(t, "Touch", b.Touch(key), min(touches[key], freq.Most), key)
			other := nth(next(30))
			want(t, "Count", b.Count(other), min(touches[other], freq.Most), other)
		}
		for key, n := range touches {
			want(t, "Count", b.Count(key), min(n, freq.Most), key)
		}
	}
}

// No call goes through all keys that need not: asking makes nothing, and a change little.
func TestP13_4_NoCallTakesLong(t *testing.T) {
	const n = 1 << 12
	b, i := filled(t, many(n)...), 0
	keys := many(n)
	made := testing.AllocsPerRun(100, func() {
		b.Least()
		b.Count(keys[i%n])
		b.Len()
		b.Drop("none")
	})
	want(t, "what is made by asking", made, 0)
	made = testing.AllocsPerRun(1000, func() {
		b.Touch(keys[i*7%n])
		b.Drop(keys[i%n])
		b.Touch(keys[i%n])
		i++
	})
	if made > 60 {
		t.Errorf("three changes make %v things", made)
	}
}

// held is how many bytes are held on to.
func held() int64 {
	var m runtime.MemStats
	runtime.GC()
	runtime.GC()
	runtime.ReadMemStats(&m)
	return int64(m.HeapAlloc)
}

// wantLittle looks at what is held on to, behind a time at which it was less.
func wantLittle(t *testing.T, what string, before int64) {
	t.Helper()
	if more := held() - before; more > 1<<20 {
		t.Errorf("%s: %d bytes are held on to", what, more)
	}
}

// Keys that went are held on to no more, be there others left, or not; nor is the room in which very many were, in a row or in many.
func TestP13_4_NothingIsHeldOfKeysThatWent(t *testing.T) {
	before := held()
	b := freq.New()
	b.Touch("stays")
	fill := func(n, long, count int) {
		for i := range n {
			touchTo(b, strings.Repeat("x", long)+nth(i), 1+i%count)
		}
	}
	drop := func(n, long int) {
		for i := range n {
			b.Drop(strings.Repeat("x", long) + nth(i))
		}
	}
	fill(7, 1<<21, 1)
	drop(7, 1<<21)
	wantLittle(t, "long keys, dropped", before)
	fill(40, 1<<21, 3)
	b.Halve()
	fill(40, 1<<21, 5)
	drop(40, 1<<21)
	wantLittle(t, "more long keys, touched again, and dropped", before)
	fill(1<<16, 0, 9)
	drop(1<<16, 0)
	wantLittle(t, "very many keys, dropped", before)
	fill(1<<16, 0, 3)
	b.Halve()
	drop(1<<16, 0)
	wantLittle(t, "very many keys, halved, and dropped", before)
	wantAll(t, b, "stays")
}

// A key that is touched again, each time with other bytes that are the same, is held on to once, halved or not.
func TestP13_4_AKeyIsHeldOnce(t *testing.T) {
	before := held()
	b := freq.New()
	for i := range 40 {
		want(t, "Touch", b.Touch(strings.Repeat("x", 1<<20)), i+1)
	}
	for i := range 20 {
		want(t, "Touch", b.Touch(strings.Repeat("y", 1<<20)), i+1)
	}
	for _, less := range []int{2, 2, 2} {
		if more := held() - before; more > 3<<20 {
			t.Errorf("%d bytes are held on to", more)
		}
		want(t, "Halve", b.Halve(), less)
	}
	wantAll(t, b, strings.Repeat("y", 1<<20), strings.Repeat("x", 1<<20))
}

// Rows that keys left are not held on to.
func TestP13_4_RowsWithoutKeysAreNotHeld(t *testing.T) {
	before := held()
	books := make([]freq.Book, 100)
	for i := range books {
		touchTo(&books[i], "a", 255)
	}
	wantLittle(t, "books of one key", before)
	for i := range books {
		want(t, "Count", books[i].Count("a"), 255, i)
	}
}
