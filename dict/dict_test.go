package dict_test

import (
	"fmt"
	"maps"
	"math"
	"slices"
	"strconv"
	"strings"
	"testing"

	"mews/dict"
	"mews/hash"
)

// seeds are the ones of the tables: the least, the one behind it, the greatest.
var seeds = [3]uint64{0, 1, math.MaxUint64}

// oddKeys are the empty key, and keys of bytes that letters do not have.
var oddKeys = []string{"", "\x00", "\x7f", "\x80", "\xff", "\x00\x00", "\x00\x7f\x80\xff", "\xff\x80\x7f\x00", "a\x00", "a", "\xff\xff", strings.Repeat("\x80", 300)}

// state is how a table stands: of one that is not parted fresh has nothing, moved and toward are -1.
type state struct {
	len, size, moved, toward int
	old, fresh               [][]string
}

// same tells whether two are one another, whether a list that has nothing is nil or not.
func (s state) same(o state) bool {
	return s.len == o.len && s.size == o.size && s.moved == o.moved && s.toward == o.toward &&
		slices.EqualFunc(s.old, o.old, slices.Equal) && slices.EqualFunc(s.fresh, o.fresh, slices.Equal)
}

// keys are all keys, place by place.
func (s state) keys() []string {
	return slices.Concat(slices.Concat(s.old...), slices.Concat(s.fresh...))
}

// told tells it in one line.
func (s state) told() string {
	text := toldPlaces(s.size, s.old)
	if s.toward >= 0 {
		text += fmt.Sprintf(" %d>%s", s.moved, toldPlaces(s.toward, s.fresh))
	}
	return text
}

func toldPlaces(size int, places [][]string) string {
	var chains []string
	for _, chain := range places {
		var words []string
		for _, key := range chain {
			words = append(words, word(key))
		}
		chains = append(chains, strings.Join(words, " "))
	}
	return fmt.Sprintf("%d[%s]", size, strings.Join(chains, "|"))
}

// word is a key as it is told.
func word(key string) string {
	if key == "" {
		return "-"
	}
	return strings.Trim(strconv.QuoteToASCII(key), `"`)
}

// short is a text, but not all of a very long one.
func short(text string) string { return text[:min(len(text), 600)] }

// look tells how a table stands, and holds what its calls tell against one another.
func look[V any](t *testing.T, table *dict.Table[V]) state {
	t.Helper()
	s := state{len: table.Len(), size: table.Size(), moved: table.Moved(), toward: table.Toward()}
	s.old = chains(t, table, true, 1<<s.size)
	places := 0
	if s.toward >= 0 {
		places = 1 << s.toward
	}
	s.fresh = chains(t, table, false, places)
	if l := table.Keys(); !slices.Equal(l, s.keys()) {
		t.Fatalf("Keys are %s; the places have %s", short(fmt.Sprintf("%q", l)), short(s.told()))
	}
	if s.len != len(s.keys()) || (s.moved < 0) != (s.toward < 0) || s.moved >= len(s.old) {
		t.Fatalf("Len() = %d, Size() = %d, Moved() = %d, Toward() = %d, of %s", s.len, s.size, s.moved, s.toward, short(s.told()))
	}
	return s
}

// chains are those of so many places: there is none ahead of them, or behind them.
func chains[V any](t *testing.T, table *dict.Table[V], old bool, places int) [][]string {
	t.Helper()
	for _, place := range []int{math.MinInt, math.MinInt32, -2, -1, places, places + 1, 2 * places, 1 << 16, 1 << 32, math.MaxInt - 1, math.MaxInt} {
		if l := table.Chain(old, place); (place < 0 || place >= places) && len(l) > 0 {
			t.Fatalf("Chain(%v, %d) = %q, of %d places", old, place, l, places)
		}
	}
	var all [][]string
	for place := range places {
		all = append(all, table.Chain(old, place))
	}
	return all
}

func wantState[V any](t *testing.T, table *dict.Table[V], want state, behind string) {
	t.Helper()
	if got := look(t, table); !got.same(want) {
		t.Fatalf("behind %s: %s; want %s", behind, short(got.told()), short(want.told()))
	}
}

// wantSame holds a table against a model.
func wantSame[V comparable](t *testing.T, table *dict.Table[V], m *model[V], behind string) {
	t.Helper()
	wantState(t, table, m.state(), behind)
	wantValues(t, table, m.values)
}

// wantParted holds how far a table is parted (-1, -1: it is not) against what it is to be.
func wantParted[V any](t *testing.T, table *dict.Table[V], size, moved, toward int, behind string) {
	t.Helper()
	if s, m, to := table.Size(), table.Moved(), table.Toward(); s != size || m != moved || to != toward {
		t.Fatalf("behind %s: Size() = %d, Moved() = %d, Toward() = %d; want %d, %d, %d", behind, s, m, to, size, moved, toward)
	}
}

func wantChain[V any](t *testing.T, table *dict.Table[V], old bool, place int, want ...string) {
	t.Helper()
	if l := table.Chain(old, place); !slices.Equal(l, want) {
		t.Fatalf("Chain(%v, %d) = %q; want %q", old, place, l, want)
	}
}

func wantInt(t *testing.T, what string, n, want int) {
	t.Helper()
	if n != want {
		t.Fatalf("%s is %d; want %d", what, n, want)
	}
}

func wantBool(t *testing.T, what string, b, want bool) {
	t.Helper()
	if b != want {
		t.Fatalf("%s is %v; want %v", what, b, want)
	}
}

// nth is one of very many keys.
func nth(i int) string { return "k" + strconv.Itoa(i) }

// keysAt are keys that all stand at one place of a table of that size.
func keysAt(seed uint64, size, place, n int) []string {
	var l []string
	for i := 0; len(l) < n; i++ {
		if hash.Place(hash.Of(seed, nth(i)), size) == place {
			l = append(l, nth(i))
		}
	}
	return l
}

// filled is a table into which keys came, each with its number as its value.
func filled(seed uint64, keys ...string) *dict.Table[int] {
	table := dict.New[int](seed)
	for i, k := range keys {
		table.Put(k, i)
	}
	return table
}

// numbered are so many keys.
func numbered(n int) []string {
	var l []string
	for i := range n {
		l = append(l, nth(i))
	}
	return l
}

// rolled gives numbers below n that look as if they were thrown; of one seed always the same ones.
func rolled(seed uint64) func(n int) int {
	return func(n int) int {
		seed = seed*6364136223846793005 + 1442695040888963407
		return int((seed ^ seed>>29) >> 11 % uint64(n))
	}
}

// backward is a list from its end on.
func backward(l []string) []string {
	l = slices.Clone(l)
	slices.Reverse(l)
	return l
}

// The chapter's example.
func TestP7_1_TheFifthKeyPartsTheTable(t *testing.T) {
	for _, seed := range append(seeds[:], 2, 1<<31, 1<<32, 1<<63) {
		for _, keys := range [][]string{numbered(5), oddKeys[:5], oddKeys[5:10], keysAt(seed, 2, 0, 5), keysAt(seed, 3, 7, 5), keysAt(seed, 9, 1, 5)} {
			table := dict.New[int](seed)
			wantState(t, table, newModel[int](seed).state(), "New")
			for i, k := range keys[:4] {
				wantBool(t, "Put of a key that comes", table.Put(k, i), true)
				wantInt(t, "Len()", table.Len(), i+1)
				wantParted(t, table, 2, -1, -1, "the first four keys")
			}
			wantBool(t, "Put of a key that comes", table.Put(keys[4], 4), true)
			wantInt(t, "Len()", table.Len(), 5)
			wantParted(t, table, 2, 0, 3, "the fifth key")
			// It came ahead of the parting: it stands at an old place, as all others do.
			if l := table.Chain(true, hash.Place(hash.Of(seed, keys[4]), 2)); len(l) == 0 || l[0] != keys[4] {
				t.Errorf("the place of the fifth key has %q", l)
			}
			wantInt(t, "how many keys stand at old places", len(slices.Concat(chains(t, table, true, 4)...)), 5)
		}
	}
}

func TestP7_1_WhatIsNotThere(t *testing.T) {
	for _, seed := range seeds {
		for n := range 20 {
			table := filled(seed, numbered(n)...)
			m := newModel[int](seed)
			for i, k := range numbered(n) {
				m.Put(k, i)
			}
			for _, k := range append([]string{"k", "K0", "k0 ", "k00", "0", nth(n), "k-1"}, oddKeys...) {
				v, ok := table.Get(k)
				wantInt(t, "the value of no key", v, 0)
				wantBool(t, "Get of no key", ok, false)
				wantBool(t, "Drop of no key", table.Drop(k), m.Drop(k))
				wantSame(t, table, m, "Drop of no key")
			}
		}
	}
}

// Keys that differ in one byte, or in how many bytes they have, are others.
func TestP7_1_KeysOfOddBytes(t *testing.T) {
	for _, seed := range seeds {
		table, m := dict.New[string](seed), newModel[string](seed)
		for i, k := range oddKeys {
			wantBool(t, "Put", table.Put(k, "v"+k), m.Put(k, "v"+k))
			wantSame(t, table, m, "Put of "+word(k))
			wantInt(t, "Len()", table.Len(), i+1)
		}
		for c := range 256 {
			k := string([]byte{byte(c)})
			table.Put(k, k)
			m.Put(k, k)
		}
		wantSame(t, table, m, "Put of each byte")
		for _, k := range oddKeys {
			wantBool(t, "Drop", table.Drop(k), m.Drop(k))
			wantSame(t, table, m, "Drop of "+word(k))
		}
	}
}

// anew puts each key of a table once more: none moves but by the step within that call.
func anew(t *testing.T, table *dict.Table[int], m *model[int]) {
	t.Helper()
	for i, k := range table.Keys() {
		m.Step(1)
		want := m.state()
		wantBool(t, "Put of a key that is there", table.Put(k, -i), false)
		wantState(t, table, want, "Put of a key that is there")
		v, ok := table.Get(k)
		wantInt(t, "the value of a key that was put anew", v, -i)
		wantBool(t, "Get of a key that was put anew", ok, true)
	}
}

func TestP7_1_PutAnewAtAllPlaces(t *testing.T) {
	for _, seed := range seeds {
		for n := range 40 {
			for steps := range 34 {
				table, m := filled(seed, numbered(n)...), newModel[int](seed)
				for i, k := range numbered(n) {
					m.Put(k, i)
				}
				wantInt(t, "Step", table.Step(steps), m.Step(steps))
				anew(t, table, m)
			}
		}
	}
}

// Of a table that is not parted, and of one at whose places nothing moves any more, all is told as before.
func TestP7_1_PutAnewTurnsNothingElse(t *testing.T) {
	table := filled(1, numbered(12)...)
	table.Step(8)
	keys, places := table.Keys(), look(t, table)
	for _, k := range backward(keys) {
		wantBool(t, "Put of a key that is there", table.Put(k, 7), false)
		wantState(t, table, places, "Put of a key that is there")
	}
	wantInt(t, "Len()", table.Len(), 12)
	if !slices.Equal(table.Keys(), keys) {
		t.Errorf("Keys are others behind Put of keys that were there")
	}
}

// Four keys have one place of a table of the size 3; the last one of them comes when so many old places are moved, and with the step of that call one more.
func TestP7_1_AKeyThatComesWhileItIsParted(t *testing.T) {
	for _, seed := range seeds {
		for place := range 8 {
			for moved := range 4 {
				l := keysAt(seed, 3, place, 4)
				others := keysAt(seed, 3, (place+1)%8, 2)
				table := filled(seed, append(l[:3:3], others...)...)
				wantInt(t, "Step", table.Step(moved), moved)
				wantBool(t, "Put", table.Put(l[3], 3), true)
				if moved == 3 {
					wantParted(t, table, 3, -1, -1, "the last step")
					wantChain(t, table, true, place, l[3], l[0], l[1], l[2])
					continue
				}
				wantParted(t, table, 2, moved+1, 3, "Put")
				if old := place % 4; old <= moved {
					wantChain(t, table, true, old)
					wantChain(t, table, false, place, l[3], l[0], l[1], l[2])
				} else {
					wantChain(t, table, true, old, l[2], l[1], l[0])
					wantChain(t, table, false, place, l[3])
					table.Step(math.MaxInt)
					wantChain(t, table, true, place, l[0], l[1], l[2], l[3])
				}
			}
		}
	}
}

// Five keys at one place part the table: they go to two places, the first one of each first, each ahead of all others.
func TestP7_1_SeveralKeysAtOnePlace(t *testing.T) {
	for _, seed := range seeds {
		for place := range 4 {
			low, high := keysAt(seed, 3, place, 3), keysAt(seed, 3, place+4, 2)
			l := []string{low[0], high[0], low[1], high[1], low[2]}
			table := dict.New[int](seed)
			for i, k := range l {
				table.Put(k, i)
				wantChain(t, table, true, place, backward(l[:i+1])...)
			}
			table.Step(place)
			wantChain(t, table, true, place, backward(l)...)
			table.Step(1)
			// Behind the last step the new places are the table's.
			old := place == 3
			wantChain(t, table, old, place, low...)
			wantChain(t, table, old, place+4, high...)
			wantChain(t, table, !old, place)
			table.Step(4)
			wantChain(t, table, true, place, low...)
			wantChain(t, table, true, place+4, high...)
		}
	}
}

// When a table shrinks, two places come together: what came while it is parted stands last, what was moved last first.
func TestP7_1_SeveralKeysAtOnePlaceOfATableThatShrinks(t *testing.T) {
	for _, seed := range seeds {
		for place := 1; place < 32; place++ {
			low, high := keysAt(seed, 6, place, 5), keysAt(seed, 6, place+32, 3)
			others := keysAt(seed, 5, (place+1)%32, 33)
			table := filled(seed, others...)
			table.Step(math.MaxInt)
			for i, k := range append(low[:4:4], high...) {
				table.Put(k, i)
			}
			for _, k := range others {
				table.Drop(k)
			}
			wantParted(t, table, 6, 0, 5, "Drop of all but seven")
			wantChain(t, table, true, place, backward(low[:4])...)
			wantChain(t, table, true, place+32, backward(high)...)
			table.Put(low[4], 4)
			wantChain(t, table, false, place, low[4])
			table.Step(place)
			wantChain(t, table, true, place)
			wantChain(t, table, false, place, append(low[:4:4], low[4])...)
			table.Step(math.MaxInt)
			wantChain(t, table, true, place, slices.Concat(high, low)...)
		}
	}
}

// The first, a middle and the last key of a place go; what is left stays as it stands.
func TestP7_1_DropWithinAPlace(t *testing.T) {
	for _, seed := range seeds {
		l := keysAt(seed, 2, 3, 4)
		for i, k := range l {
			table := filled(seed, l...)
			wantBool(t, "Drop", table.Drop(k), true)
			wantChain(t, table, true, 3, backward(slices.Concat(l[:i], l[i+1:]))...)
			wantBool(t, "Drop once more", table.Drop(k), false)
			_, ok := table.Get(k)
			wantBool(t, "Get of what was dropped", ok, false)
			wantBool(t, "Put of what was dropped", table.Put(k, 9), true)
			wantChain(t, table, true, 3, append([]string{k}, backward(slices.Concat(l[:i], l[i+1:]))...)...)
		}
	}
}

// A table is parted so far as it goes, and one key is dropped: at an old place, at a new one, or not there.
func TestP7_1_DropOfAPartedTable(t *testing.T) {
	for _, seed := range seeds {
		for n := 5; n < 40; n++ {
			for moved := range 1 << (sizeBelow(n)) {
				for _, k := range append(numbered(n), "no key", "") {
					table, m := dict.New[int](seed), newModel[int](seed)
					for i, k := range numbered(n) {
						table.Put(k, i)
						m.Put(k, i)
					}
					table.Step(moved)
					m.Step(moved)
					wantBool(t, "Drop", table.Drop(k), m.Drop(k))
					wantState(t, table, m.state(), "Drop")
				}
			}
		}
	}
}

// sizeBelow is the greatest size of fewer than n places.
func sizeBelow(n int) int {
	size := 0
	for 1<<(size+1) < n {
		size++
	}
	return size
}

// Each Put and each Drop of a parted table makes one step, whatever it answers, until the parting ends.
func TestP7_1_AStepWithinPutAndDrop(t *testing.T) {
	calls := map[string]func(table *dict.Table[int], i int){
		"Put of a key that comes":    func(table *dict.Table[int], i int) { table.Put("new"+nth(i), i) },
		"Put of a key that is there": func(table *dict.Table[int], i int) { table.Put(nth(0), i) },
		"Drop of no key":             func(table *dict.Table[int], i int) { table.Drop("no key") },
		"Drop of a key":              func(table *dict.Table[int], i int) { table.Drop(nth(i)) },
	}
	for _, what := range slices.Sorted(maps.Keys(calls)) {
		for size := 2; size < 8; size++ {
			table := filled(0, numbered(1<<size+1)...)
			wantParted(t, table, size, 0, size+1, "Put of as many keys as places, and one more")
			for i := range 1<<size - 1 {
				calls[what](table, i)
				wantParted(t, table, size, i+1, size+1, what)
			}
			calls[what](table, 1<<size-1)
			switch what {
			case "Put of a key that comes": // There are more keys than places again.
				wantParted(t, table, size+1, 0, size+2, what)
			case "Drop of a key": // One key is left: that is too few from the size 4 on.
				if size > 2 {
					wantParted(t, table, size+1, 0, size, what)
					break
				}
				fallthrough
			default:
				wantParted(t, table, size+1, -1, -1, what)
			}
		}
	}
}

// What only tells turns nothing, however far the table is parted.
func TestP7_1_TellingTurnsNothing(t *testing.T) {
	for _, n := range []int{0, 1, 4, 5, 9, 17, 33} {
		for steps := range 33 {
			table := filled(0, numbered(n)...)
			table.Step(steps)
			want := look(t, table)
			for _, tell := range []func(){
				func() { table.Get(nth(0)) },
				func() { table.Get("no key") },
				func() { table.Len() },
				func() { table.Size() },
				func() { table.Moved() },
				func() { table.Toward() },
				func() { table.Keys() },
				func() { table.Chain(true, 0) },
				func() { table.Chain(false, 0) },
				func() { table.Step(0) },
			} {
				tell()
				tell()
				wantState(t, table, want, "what only tells")
			}
		}
	}
}

// As long as only new keys come, each one makes a step, and the last step of a size comes with the key that parts the next one.
func TestP7_1_GrowsFromEachSizeToTheNext(t *testing.T) {
	table, m := dict.New[int](0), newModel[int](0)
	for n := 1; n <= 1<<17+5; n++ {
		wantBool(t, "Put", table.Put(nth(n), n), true)
		m.Put(nth(n), n)
		switch size := sizeBelow(n); {
		case n <= 4:
			wantParted(t, table, 2, -1, -1, "Put of "+nth(n))
		case n <= 1<<16:
			wantParted(t, table, size, n-1<<size-1, size+1, "Put of "+nth(n))
		default: // It is of the greatest size.
			wantParted(t, table, 16, -1, -1, "Put of "+nth(n))
		}
		if n < 70 || n == 1<<10+1 || n == 1<<16 || n == 1<<16+1 || n == 1<<17+5 {
			wantSame(t, table, m, "Put of "+nth(n))
		}
	}
	wantInt(t, "Step", table.Step(math.MaxInt), 0)
}

// Just as many keys as places do not part the table; one more does.
func TestP7_1_GrowsAboveItsPlacesAlone(t *testing.T) {
	for _, seed := range seeds {
		table := dict.New[int](seed)
		n := 0
		for size := 2; size < 16; size++ {
			for ; n < 1<<size; n++ {
				table.Put(nth(n), n)
				wantParted(t, table, size, -1, -1, "as many keys as places, or fewer")
			}
			table.Put(nth(n), n)
			n++
			wantParted(t, table, size, 0, size+1, "one key more than places")
			wantInt(t, "Step", table.Step(math.MaxInt), 1<<size)
			wantParted(t, table, size+1, -1, -1, "all steps")
		}
		for ; n <= 1<<16+100; n++ {
			table.Put(nth(n), n)
			wantParted(t, table, 16, -1, -1, "keys of a table of the size 16")
		}
		wantInt(t, "Len()", table.Len(), n)
	}
}

func TestP7_1_ShrinksFromEachSizeDownTo2(t *testing.T) {
	table, m := dict.New[int](1), newModel[int](1)
	n := 0
	for ; n <= 1<<16; n++ {
		table.Put(nth(n), n)
		m.Put(nth(n), n)
	}
	for size := 16; size > 2; size-- {
		for n > 1<<size/8 {
			n--
			wantBool(t, "Drop", table.Drop(nth(n)), m.Drop(nth(n)))
			wantParted(t, table, size, -1, -1, "eight times the keys = places, or more")
		}
		n--
		wantBool(t, "Drop of no key", table.Drop("no key"), false)
		wantParted(t, table, size, -1, -1, "Drop of no key")
		wantBool(t, "Drop", table.Drop(nth(n)), m.Drop(nth(n)))
		wantParted(t, table, size, 0, size-1, "eight times the keys below the places")
		wantSame(t, table, m, "Drop")
		wantInt(t, "Step", table.Step(1<<size+1), 1<<size)
		m.Step(1 << size)
		wantSame(t, table, m, "all steps")
	}
	wantInt(t, "Len()", table.Len(), 0)
	for range 3 {
		table.Put("k", 1)
		wantBool(t, "Drop of the last key", table.Drop("k"), true)
		wantParted(t, table, 2, -1, -1, "Drop of the last key of a table of the size 2")
	}
}

// A parted table does not begin another parting, however many keys come, or go.
func TestP7_1_APartedTableIsNotPartedAnew(t *testing.T) {
	table := filled(0, numbered(1<<10+1)...)
	for i := range 1<<10 - 1 {
		table.Drop(nth(i))
		wantParted(t, table, 10, i+1, 11, "Drop of a table that grows")
	}
	table = filled(0, numbered(1<<10+1)...)
	table.Step(math.MaxInt)
	for i := range 1<<10 + 1 - 255 {
		wantParted(t, table, 11, -1, -1, "Drop of a key")
		table.Drop(nth(i))
	}
	for i := range 1<<11 - 1 {
		wantParted(t, table, 11, i, 10, "Put of a table that shrinks")
		table.Put("new"+nth(i), i)
	}
	wantInt(t, "Len()", table.Len(), 255+1<<11-1)
	table.Put("one more", 0)
	wantParted(t, table, 10, 0, 11, "the end of a shrinking while many keys came")
}

func TestP7_2_Steps(t *testing.T) {
	for size := 2; size < 7; size++ {
		for moved := range 1 << size {
			left := 1<<size - moved
			for _, n := range []int{math.MinInt, math.MinInt + 1, -1 << 40, -2, -1, 0, 1, 2, left - 1, left, left + 1, 2 * left, 1 << 40, math.MaxInt - 1, math.MaxInt} {
				want := min(max(n, 0), left)
				grows, shrinks := filled(0, numbered(1<<size+1)...), dict.New[int](0)
				wantInt(t, "Step", grows.Step(moved), moved)
				wantInt(t, "Step", grows.Step(n), want)
				stepped(t, grows, size, size+1, moved+want)
				if size > 2 {
					shrinks = thinned(size)
					wantInt(t, "Step", shrinks.Step(moved), moved)
					wantInt(t, "Step", shrinks.Step(n), want)
					stepped(t, shrinks, size, size-1, moved+want)
				}
			}
		}
	}
}

// stepped holds how far a table went from one size to another one.
func stepped(t *testing.T, table *dict.Table[int], from, to, moved int) {
	t.Helper()
	if moved < 1<<from {
		wantParted(t, table, from, moved, to, "Step")
		return
	}
	wantParted(t, table, to, -1, -1, "the last step")
	for _, n := range []int{math.MinInt, -1, 0, 1, 2, math.MaxInt} {
		wantInt(t, "Step of a table that is not parted", table.Step(n), 0)
	}
	wantParted(t, table, to, -1, -1, "Step of a table that is not parted")
}

// thinned is a table of that size, of which no place is moved, that shrinks.
func thinned(size int) *dict.Table[int] {
	keys := numbered(1<<(size-1) + 1)
	table := filled(0, keys...)
	table.Step(math.MaxInt)
	for _, k := range keys {
		if table.Toward() < 0 {
			table.Drop(k)
		}
	}
	return table
}

// Steps go from the first old place to the last one; what stands behind them stays.
func TestP7_2_EachStep(t *testing.T) {
	for _, seed := range seeds {
		for _, n := range []int{5, 9, 17, 33, 65, 129} {
			table, m := filled(seed, numbered(n)...), newModel[int](seed)
			for i, k := range numbered(n) {
				m.Put(k, i)
			}
			for m.parted {
				wantInt(t, "Step", table.Step(1), m.Step(1))
				wantSame(t, table, m, "Step")
			}
			wantInt(t, "Step", table.Step(1), 0)
			wantSame(t, table, m, "Step")
		}
	}
}

// (look asks for the chains of places that there are not, too.)
func TestP7_3_Chains(t *testing.T) {
	table := filled(0, "a", "b", "c", "d")
	for _, x := range []struct {
		old   bool
		place int
		want  []string
	}{
		{true, math.MinInt, nil}, {true, -1, nil}, {true, 0, []string{"b"}}, {true, 1, nil}, {true, 2, []string{"d", "c"}}, {true, 3, []string{"a"}}, {true, 4, nil}, {true, math.MaxInt, nil},
		{false, math.MinInt, nil}, {false, -1, nil}, {false, 0, nil}, {false, 1, nil}, {false, 2, nil}, {false, 3, nil}, {false, 4, nil}, {false, math.MaxInt, nil},
	} {
		wantChain(t, table, x.old, x.place, x.want...)
	}
	for _, k := range []string{"e", "f", "g"} {
		table.Put(k, 0)
	}
	for _, x := range []struct {
		old   bool
		place int
		want  []string
	}{
		{true, -1, nil}, {true, 0, nil}, {true, 1, nil}, {true, 2, []string{"d", "c"}}, {true, 3, []string{"a"}}, {true, 4, nil}, {true, 6, nil}, {true, 7, nil},
		{false, -1, nil}, {false, 0, []string{"b", "e"}}, {false, 1, nil}, {false, 2, nil}, {false, 3, nil}, {false, 4, nil}, {false, 5, nil}, {false, 6, []string{"g"}}, {false, 7, []string{"f"}}, {false, 8, nil}, {false, math.MinInt, nil}, {false, math.MaxInt, nil},
	} {
		wantChain(t, table, x.old, x.place, x.want...)
	}
	if l := table.Keys(); !slices.Equal(l, []string{"d", "c", "a", "b", "e", "g", "f"}) {
		t.Errorf("Keys() = %q", l)
	}
}

func TestP7_3_ChainsAtTheLastPlaces(t *testing.T) {
	for size := 3; size <= 16; size++ {
		k := keysAt(2, size, 1<<size-1, 1)[0]
		table := filled(2, slices.DeleteFunc(numbered(1<<(size-1)+1), func(x string) bool { return x == k })...)
		table.Put(k, 0)
		table.Step(math.MaxInt)
		if l := table.Chain(true, 1<<size-1); table.Size() != size || len(l) == 0 || !slices.Contains(l, k) {
			t.Errorf("Size() = %d; Chain(true, %d) = %q; it is to have %s", table.Size(), 1<<size-1, l, k)
		}
		wantChain(t, table, true, 1<<size)
		wantChain(t, table, true, -1)
		wantChain(t, table, false, 1<<size-1)
	}
}

// A table that was cleared is as a new one of its seed, whatever came ahead of that, and goes on so.
func TestP7_3_Clear(t *testing.T) {
	for _, seed := range seeds {
		for n := range 70 {
			for _, steps := range []int{0, 1, 3, math.MaxInt} {
				table, m := filled(seed, numbered(n)...), newModel[int](seed)
				table.Step(steps)
				table.Clear()
				wantSame(t, table, m, "Clear")
				wantInt(t, "Step", table.Step(1), 0)
				wantBool(t, "Drop of what was cleared", table.Drop(nth(0)), false)
				for i := range 12 {
					wantBool(t, "Put behind Clear", table.Put(nth(i), -i), m.Put(nth(i), -i))
					wantSame(t, table, m, "Put behind Clear")
				}
				table.Clear()
				table.Clear()
				wantSame(t, table, newModel[int](seed), "Clear")
			}
		}
	}
	table := filled(3, numbered(1<<16+1)...)
	table.Clear()
	wantSame(t, table, newModel[int](3), "Clear of a table of the greatest size")
}

// wantNothing asks a nil table for all that there is to be asked, twice.
func wantNothing[V any](t *testing.T, v V, zero func(V) bool) {
	t.Helper()
	var table *dict.Table[V]
	for range 2 {
		for _, k := range []string{"", "a", "\xff"} {
			wantBool(t, "Put of a nil table", table.Put(k, v), false)
			got, ok := table.Get(k)
			wantBool(t, "Get of a nil table", ok, false)
			wantBool(t, "that the value of no key is the zero one", zero(got), true)
			wantBool(t, "Drop of a nil table", table.Drop(k), false)
		}
		for _, n := range []int{math.MinInt, -1, 0, 1, 4, 1 << 16, math.MaxInt} {
			wantInt(t, "Step of a nil table", table.Step(n), 0)
			wantChain(t, table, true, n)
			wantChain(t, table, false, n)
		}
		wantInt(t, "Len() of a nil table", table.Len(), 0)
		wantInt(t, "Size() of a nil table", table.Size(), 0)
		wantInt(t, "Moved() of a nil table", table.Moved(), -1)
		wantInt(t, "Toward() of a nil table", table.Toward(), -1)
		wantInt(t, "how many Keys a nil table has", len(table.Keys()), 0)
		table.Clear()
	}
}

func TestP7_3_ANilTable(t *testing.T) {
	wantNothing(t, 5, func(v int) bool { return v == 0 })
	wantNothing(t, "v", func(v string) bool { return v == "" })
	wantNothing(t, []int{1}, func(v []int) bool { return v == nil })
	wantNothing(t, new(int), func(v *int) bool { return v == nil })
	wantNothing(t, struct{ a, b string }{"x", "y"}, func(v struct{ a, b string }) bool { return v.a == "" && v.b == "" })
	wantNothing(t, error(strconv.ErrRange), func(v error) bool { return v == nil })
}

// askings are calls of a table, each with what it answers, as a text.
func askings() []func(table *dict.Table[int]) string {
	return []func(table *dict.Table[int]) string{
		func(table *dict.Table[int]) string { return fmt.Sprint(table.Put("a", 1)) },
		func(table *dict.Table[int]) string { return fmt.Sprint(table.Put("", 2)) },
		func(table *dict.Table[int]) string { v, ok := table.Get("a"); return fmt.Sprint(v, ok) },
		func(table *dict.Table[int]) string { return fmt.Sprint(table.Drop("a")) },
		func(table *dict.Table[int]) string { return fmt.Sprint(table.Step(1)) },
		func(table *dict.Table[int]) string { return fmt.Sprint(table.Step(-1)) },
		func(table *dict.Table[int]) string { return fmt.Sprint(table.Len()) },
		func(table *dict.Table[int]) string { return fmt.Sprint(table.Size()) },
		func(table *dict.Table[int]) string { return fmt.Sprint(table.Moved()) },
		func(table *dict.Table[int]) string { return fmt.Sprint(table.Toward()) },
		func(table *dict.Table[int]) string { return fmt.Sprintf("%q", table.Keys()) },
		func(table *dict.Table[int]) string { return fmt.Sprintf("%q", table.Chain(true, 3)) },
		func(table *dict.Table[int]) string { return fmt.Sprintf("%q", table.Chain(false, 3)) },
		func(table *dict.Table[int]) string { return fmt.Sprintf("%q", table.Chain(true, 4)) },
		func(table *dict.Table[int]) string { table.Clear(); return "" },
	}
}

// Each call comes first once, and then each other one, and a third one.
func TestP7_3_ATableThatNobodyMade(t *testing.T) {
	asks := askings()
	for i := range asks {
		for j := range asks {
			for k := range asks {
				var nobody dict.Table[int]
				made := dict.New[int](0)
				for place, ask := range []int{i, j, k} {
					if got, want := asks[ask](&nobody), asks[ask](made); got != want {
						t.Fatalf("calls %d, %d, %d: place %d: %s; of New(0) %s", i, j, k, place, got, want)
					}
				}
				wantState(t, &nobody, look(t, made), "the same calls as on New(0)")
			}
		}
	}
}

// What nobody made does what is asked first, and what New(0) does from there on.
func TestP7_3_ATableThatNobodyMadeGoesOn(t *testing.T) {
	wantState(t, &dict.Table[int]{}, newModel[int](0).state(), "nothing")
	wantState(t, new(dict.Table[string]), newModel[string](0).state(), "nothing")
	for first, ask := range askings() {
		nobody, made := new(dict.Table[int]), dict.New[int](0)
		ask(nobody)
		ask(made)
		for i := range 300 {
			k := nth(i * 7 % 40)
			if i%3 == 2 {
				wantBool(t, "Drop", nobody.Drop(k), made.Drop(k))
			} else {
				wantBool(t, "Put", nobody.Put(k, i), made.Put(k, i))
			}
			wantState(t, nobody, look(t, made), "the same calls as on New(0), the first one being "+strconv.Itoa(first))
		}
	}
	var within struct {
		n     int
		table dict.Table[int]
	}
	wantBool(t, "Put", within.table.Put("a", 5), true)
	wantValues(t, &within.table, map[string]int{"a": 5})
}

// Whoever holds a list that was handed out may change it; and no later call does.
func TestP7_3_ListsThatWereHandedOut(t *testing.T) {
	table := filled(0, numbered(9)...)
	table.Step(3)
	want := look(t, table)
	for _, list := range []func() []string{
		table.Keys,
		func() []string { return table.Chain(true, 4) },
		func() []string { return table.Chain(false, 9) },
		func() []string { return slices.Concat(table.Chain(true, 6), table.Chain(false, 0)) },
	} {
		one, other := list(), list()
		kept := slices.Clone(other)
		clear(one)
		_ = append(one, "behind it")
		if !slices.Equal(other, kept) {
			t.Errorf("two lists share what they have")
		}
		wantState(t, table, want, "a list was changed")
	}
	keys := table.Keys()
	kept := slices.Clone(keys)
	for i := range 30 {
		table.Put("new"+nth(i), i)
		table.Drop(nth(i))
	}
	table.Clear()
	if !slices.Equal(keys, kept) {
		t.Errorf("a later call changed the keys that were told")
	}
}

// roam makes rolled calls of a table and a model: with many keys, or few ones, as it goes.
func roam(t *testing.T, seed uint64, calls, keys int) {
	t.Helper()
	roll := rolled(seed + uint64(keys))
	table, m := dict.New[int](seed), newModel[int](seed)
	puts := 6
	for i := range calls {
		if roll(60) == 0 {
			puts = roll(9)
		}
		k := nth(roll(keys))
		if roll(20) == 0 {
			k = oddKeys[roll(len(oddKeys))]
		}
		behind := fmt.Sprintf("the call %d of the seed %d with %d keys", i, seed, keys)
		switch n := roll(10); {
		case roll(2000) == 0:
			table.Clear()
			m.Clear()
		case roll(12) == 0:
			steps := roll(40) - 3
			wantInt(t, "Step, "+behind, table.Step(steps), m.Step(steps))
		case n <= puts:
			wantBool(t, "Put, "+behind, table.Put(k, i), m.Put(k, i))
		default:
			wantBool(t, "Drop, "+behind, table.Drop(k), m.Drop(k))
		}
		v, ok := table.Get(k)
		want, there := m.values[k]
		wantInt(t, "the value, "+behind, v, want)
		wantBool(t, "Get, "+behind, ok, there)
		if keys < 100 || i%10 == 0 {
			wantSame(t, table, m, behind)
		}
	}
}

func TestP7_4_RolledCalls(t *testing.T) {
	for _, seed := range append(seeds[:], 4, 5, 6) {
		for _, keys := range []int{1, 2, 6, 10, 20, 60} {
			roam(t, seed, 3000, keys)
		}
		roam(t, seed, 4000, 600)
	}
}

// All sequences of calls on few keys, from an empty table, and from one that is about to be parted.
func TestP7_4_AllShortSequences(t *testing.T) {
	words := []string{"k0", "k1", "", "\xff"}
	for _, ahead := range []int{0, 3, 4, 5, 7, 8} {
		for n := range 9 * 9 * 9 * 9 {
			table, m := dict.New[int](0), newModel[int](0)
			for i := range ahead {
				table.Put(nth(i), -1)
				m.Put(nth(i), -1)
			}
			for i := range 4 {
				call := n % 9
				n /= 9
				switch {
				case call == 8:
					wantInt(t, "Step", table.Step(2), m.Step(2))
				case call < 4:
					wantBool(t, "Put", table.Put(words[call], i), m.Put(words[call], i))
				default:
					wantBool(t, "Drop", table.Drop(words[call-4]), m.Drop(words[call-4]))
				}
			}
			wantState(t, table, m.state(), "a short sequence")
			wantValues(t, table, m.values)
		}
	}
}

// Each key is there once, however often it was put, and wherever it stood.
func TestP7_4_EachKeyOnce(t *testing.T) {
	table := dict.New[int](0)
	for n := range 200 {
		for i := range n {
			table.Put(nth(i), n)
		}
		l := table.Keys()
		slices.Sort(l)
		want := numbered(n)
		slices.Sort(want)
		if !slices.Equal(l, want) {
			t.Fatalf("%d keys: %q", n, l)
		}
	}
}

// wantKept puts values of any type, and holds those that are got against them, whatever the table does.
func wantKept[V any](t *testing.T, value func(i int) V, same func(a, b V) bool) {
	t.Helper()
	table := dict.New[V](1)
	ints := dict.New[int](1)
	values := map[string]V{}
	for i := range 100 {
		k := nth(i * 3 % 70)
		values[k] = value(i)
		wantBool(t, "Put", table.Put(k, values[k]), ints.Put(k, i))
		if i%4 == 3 {
			delete(values, nth(i))
			wantBool(t, "Drop", table.Drop(nth(i)), ints.Drop(nth(i)))
		}
		wantState(t, table, look(t, ints), "the same calls with numbers")
		for k, want := range values {
			if v, ok := table.Get(k); !ok || !same(v, want) {
				t.Fatalf("Get(%q) = %v, %v; want %v", k, v, ok, want)
			}
		}
		var none V
		if v, ok := table.Get("no key"); ok || !same(v, none) {
			t.Fatalf("Get of no key: %v, %v", v, ok)
		}
	}
}

// Structs, slices (nil ones, too), pointers and functions are kept as they are; where keys stand does not hang on them.
func TestP7_4_ValuesOfAllTypes(t *testing.T) {
	type pair struct {
		name string
		n    int
	}
	wantKept(t, func(i int) string { return strings.Repeat("v", i%5) }, func(a, b string) bool { return a == b })
	wantKept(t, func(i int) bool { return i%2 == 0 }, func(a, b bool) bool { return a == b })
	wantKept(t, func(i int) struct{} { return struct{}{} }, func(a, b struct{}) bool { return true })
	wantKept(t, func(i int) pair { return pair{nth(i), i} }, func(a, b pair) bool { return a == b })
	wantKept(t, func(i int) [3]int { return [3]int{i, 0, -i} }, func(a, b [3]int) bool { return a == b })
	wantKept(t, func(i int) []int { return slices.Repeat([]int{i}, i%3) }, slices.Equal[[]int])
	wantKept(t, func(i int) []string { return nil }, func(a, b []string) bool { return a == nil && b == nil })
	wantKept(t, func(i int) *int { return &i }, func(a, b *int) bool { return a == b })
	wantKept(t, func(i int) *dict.Table[int] { return dict.New[int](uint64(i)) }, func(a, b *dict.Table[int]) bool { return a == b })
	wantKept(t, func(i int) any { return []any{nil, i, "v"}[i%3] }, func(a, b any) bool { return a == b })
	wantKept(t, func(i int) map[string]int { return map[string]int{"n": i} }, maps.Equal[map[string]int, map[string]int])
}

// A zero value is a value: its key is there.
func TestP7_4_ZeroValues(t *testing.T) {
	table := dict.New[[]string](0)
	wantBool(t, "Put", table.Put("a", nil), true)
	wantBool(t, "Put", table.Put("a", nil), false)
	v, ok := table.Get("a")
	if v != nil || !ok {
		t.Errorf("Get = %v, %v", v, ok)
	}
	wantBool(t, "Drop", table.Drop("a"), true)
}

// What is handed in is not changed, and what stands in its spare room neither.
func TestP7_4_ValuesAreNotChanged(t *testing.T) {
	table := dict.New[[]int](0)
	room := []int{1, 2, 3, 4}
	for i := range 50 {
		table.Put(nth(i), room[:i%4])
	}
	for i := range 50 {
		if v, _ := table.Get(nth(i)); !slices.Equal(v, room[:i%4]) {
			t.Errorf("Get(%q) = %v", nth(i), v)
		}
	}
	if !slices.Equal(room, []int{1, 2, 3, 4}) {
		t.Errorf("a value's room was changed: %v", room)
	}
}

// The same calls, of two tables by turns: they stand the same, call by call; those of other seeds do not.
func TestP7_5_TheSeedAndTheCallsAlone(t *testing.T) {
	for _, seed := range seeds {
		roll := rolled(75)
		one, same, other := dict.New[int](seed), dict.New[int](seed), dict.New[int](seed^1<<40)
		differ := false
		for i := range 2000 {
			k, steps := nth(roll(90)), roll(5)
			call := func(table *dict.Table[int], v int) {
				switch steps {
				case 0:
					table.Drop(k)
				case 1:
					table.Step(2)
				default:
					table.Put(strings.Join([]string{k[:1], k[1:]}, ""), v)
				}
			}
			call(one, i)
			call(other, -i)
			// Its values are others, and it was asked much between the calls: that turns nothing.
			call(same, -i)
			same.Get(k)
			same.Keys()
			wantState(t, same, look(t, one), "the same calls")
			differ = differ || !slices.Equal(one.Keys(), other.Keys())
		}
		wantBool(t, "that keys stand elsewhere by another seed", differ, true)
	}
}

// With steps thrown in everywhere the same is answered, and the same is there; only where keys stand is another thing.
func TestP7_6_StepsTurnNothingElse(t *testing.T) {
	for _, seed := range seeds {
		roll := rolled(76)
		plain, stepped := dict.New[int](seed), dict.New[int](seed)
		for i := range 5000 {
			k, puts := nth(roll(150)), 2+i/500%6
			stepped.Step(roll(12) - 2)
			if roll(10) < puts {
				wantBool(t, "Put", stepped.Put(k, i), plain.Put(k, i))
			} else {
				wantBool(t, "Drop", stepped.Drop(k), plain.Drop(k))
			}
			wantInt(t, "Len()", stepped.Len(), plain.Len())
			v, ok := stepped.Get(k)
			want, there := plain.Get(k)
			wantInt(t, "the value", v, want)
			wantBool(t, "Get", ok, there)
			one, other := stepped.Keys(), plain.Keys()
			slices.Sort(one)
			slices.Sort(other)
			if !slices.Equal(one, other) {
				t.Fatalf("the call %d: Keys are %q; without steps %q", i, one, other)
			}
		}
	}
}

// Each step by itself: all keys and values are there behind it, each once.
func TestP7_6_EachStepByItself(t *testing.T) {
	for _, n := range []int{5, 9, 20, 100, 1000} {
		table := filled(1, numbered(n)...)
		values := map[string]int{}
		for i, k := range numbered(n) {
			values[k] = i
		}
		for table.Step(1) == 1 {
			look(t, table)
			wantValues(t, table, values)
		}
	}
}
