package order_test

import (
	"fmt"
	"iter"
	"runtime"
	"slices"
	"strconv"
	"strings"
	"testing"

	"mews/order"
)

// odd are keys that are nothing, or have odd bytes; no two are one.
var odd = []string{"", "\x00", "\x00\x00", "\x00a", "\n", "\r\n", " ", "10", "9", "A", "B", "a", "a\x00", "aa", "ab", "b", "\x7f", "\x80", "\x80a", "\xc3\x28", "é", "e\u0301", "\xef\xbf\xbd", "\U00010000", "\U0010ffff", "\xff", "\xff\x00", "\xff\xff"}

// nth are keys, of which no two are one.
func nth(i int) string { return "k" + strconv.Itoa(i) }

// many are n keys.
func many(n int) []string {
	l := make([]string, n)
	for i := range l {
		l[i] = nth(i)
	}
	return l
}

// rolled gives numbers below n that look as if they were thrown; of one seed always the same ones.
func rolled(seed uint64) func(n int) int {
	return func(n int) int {
		seed = seed*6364136223846793005 + 1442695040888963407
		return int((seed ^ seed>>29) >> 11 % uint64(n))
	}
}

// mixed are keys in some order of a seed.
func mixed(seed uint64, l []string) []string {
	l = slices.Clone(l)
	next := rolled(seed)
	for i := range l {
		j := i + next(len(l)-i)
		l[i], l[j] = l[j], l[i]
	}
	return l
}

func turned(l []string) []string {
	l = slices.Clone(l)
	slices.Reverse(l)
	return l
}

// orders are some orders of keys.
func orders(l []string) map[string][]string {
	return map[string][]string{
		"as they are": l,
		"turned":      turned(l),
		"mixed":       mixed(1, l),
		"other":       mixed(2, l),
		"halves":      append(slices.Clone(l[len(l)/2:]), l[:len(l)/2]...),
	}
}

// filled is an order of keys that were touched, one behind the other.
func filled(t *testing.T, keys ...string) *order.Order {
	t.Helper()
	o := order.New()
	for _, key := range keys {
		want(t, "Touch", o.Touch(key), true, key)
	}
	return o
}

// modelOf is a model with keys, from the oldest on.
func modelOf(keys ...string) *model {
	m := new(model)
	for _, key := range keys {
		m.Touch(key)
	}
	return m
}

// without are keys but for one.
func without(l []string, key string) []string {
	return slices.DeleteFunc(slices.Clone(l), func(x string) bool { return x == key })
}

// told is how things are shown: of very many the first ones.
func told(x any) string {
	s := fmt.Sprintf("%#v", x)
	return s[:min(len(s), 600)]
}

// want holds what a call with some arguments answered against what it should.
func want[V comparable](t *testing.T, call string, got, meant V, args ...any) {
	if got != meant {
		t.Helper()
		t.Fatalf("%s of %s: %s; want %s", call, told(args), told(got), told(meant))
	}
}

// wantList holds keys that were told against what they should be.
func wantList(t *testing.T, what string, l []string, meant ...string) {
	if !slices.Equal(l, meant) {
		t.Helper()
		t.Fatalf("%s: %s; want %s", what, told(l), told(meant))
	}
}

// wantOldest asks for the oldest key: of those that are meant, from the oldest on.
func wantOldest(t *testing.T, o calls, all []string) {
	meant := ""
	if len(all) > 0 {
		meant = all[0]
	}
	if key, ok := o.Oldest(); key != meant || ok != (len(all) > 0) {
		t.Helper()
		t.Fatalf("Oldest: %q, %v; want %q, %v", key, ok, meant, len(all) > 0)
	}
}

// walked are the keys that Walk tells, when it is stopped at one of them: at the stop-th one, from 1 on; 0: at none.
func walked(o calls, stop int) []string {
	var l []string
	o.Walk(func(key string) bool {
		l = append(l, key)
		return len(l) != stop
	})
	return l
}

// wantAll holds all that an order tells, without a change, against its keys, from the oldest on.
func wantAll(t *testing.T, o calls, all ...string) {
	t.Helper()
	want(t, "Len", o.Len(), len(all))
	wantList(t, "All", o.All(), all...)
	wantList(t, "Walk", walked(o, 0), all...)
	wantOldest(t, o, all)
	for _, key := range all {
		want(t, "Has", o.Has(key), true, key)
	}
}

// wantNone asks for keys that are not there.
func wantNone(t *testing.T, o calls, keys ...string) {
	t.Helper()
	for _, key := range keys {
		want(t, "Has", o.Has(key), false, key)
		want(t, "Drop", o.Drop(key), false, key)
	}
}

// drain lets all keys go, the oldest one each time: they are those that are meant, in order.
func drain(t *testing.T, o calls, all ...string) {
	t.Helper()
	for i, key := range all {
		wantOldest(t, o, all[i:])
		want(t, "Drop", o.Drop(key), true, key)
		want(t, "Has", o.Has(key), false, key)
		want(t, "Len", o.Len(), len(all)-i-1)
	}
	wantAll(t, o)
}

func TestP12_1_NewIsEmpty(t *testing.T) {
	for range 3 {
		o := order.New()
		if o == nil {
			t.Fatal("New: nil")
		}
		wantAll(t, o)
		wantNone(t, o, odd...)
		wantAll(t, o)
		want(t, "Touch", o.Touch(""), true)
		wantAll(t, o, "")
	}
}

func TestP12_1_ByHand(t *testing.T) {
	const touch, drop = true, false
	o := order.New()
	for i, x := range []struct {
		touch bool
		key   string
		ok    bool
		all   []string
	}{
		{drop, "a", false, nil},
		{touch, "b", true, []string{"b"}},
		{touch, "b", false, []string{"b"}},
		{drop, "a", false, []string{"b"}},
		{touch, "a", true, []string{"b", "a"}},
		{touch, "a", false, []string{"b", "a"}},
		{touch, "b", false, []string{"a", "b"}},
		{touch, "c", true, []string{"a", "b", "c"}},
		{touch, "b", false, []string{"a", "c", "b"}},
		{touch, "", true, []string{"a", "c", "b", ""}},
		{touch, "a", false, []string{"c", "b", "", "a"}},
		{touch, "", false, []string{"c", "b", "a", ""}},
		{drop, "d", false, []string{"c", "b", "a", ""}},
		{drop, "a\x00", false, []string{"c", "b", "a", ""}},
		{drop, "b", true, []string{"c", "a", ""}},
		{drop, "b", false, []string{"c", "a", ""}},
		{drop, "", true, []string{"c", "a"}},
		{drop, "", false, []string{"c", "a"}},
		{touch, "b", true, []string{"c", "a", "b"}},
		{drop, "c", true, []string{"a", "b"}},
		{touch, "c", true, []string{"a", "b", "c"}},
		{drop, "a", true, []string{"b", "c"}},
		{drop, "c", true, []string{"b"}},
		{touch, "b", false, []string{"b"}},
		{drop, "b", true, nil},
		{drop, "b", false, nil},
		{touch, "", true, []string{""}},
		{drop, "", true, nil},
		{touch, "b", true, []string{"b"}},
		{touch, "a", true, []string{"b", "a"}},
	} {
		if x.touch {
			want(t, "Touch", o.Touch(x.key), x.ok, i, x.key)
		} else {
			want(t, "Drop", o.Drop(x.key), x.ok, i, x.key)
		}
		wantAll(t, o, x.all...)
		wantNone(t, o, "d", "A", "a\x00", " ", "ab")
	}
}

// Of so many keys each one is touched again: the oldest one, the last one, the only one, one between.
func TestP12_1_TouchOfEach(t *testing.T) {
	for n := 1; n <= 40; n++ {
		for _, keys := range orders(many(n)) {
			for _, key := range keys {
				o := filled(t, keys...)
				meant := append(without(keys, key), key)
				for range 2 {
					want(t, "Touch", o.Touch(key), false, key)
					wantAll(t, o, meant...)
				}
				wantNone(t, o, "", "k", key+"\x00", nth(n), nth(-1))
				drain(t, o, meant...)
			}
		}
	}
}

// From so many keys each one is dropped, and comes again as the last one; another one is not there.
func TestP12_1_DropOfEach(t *testing.T) {
	for n := 1; n <= 40; n++ {
		for _, keys := range orders(many(n)) {
			for _, key := range keys {
				o := filled(t, keys...)
				rest := without(keys, key)
				wantNone(t, o, "", "k", key+"\x00", nth(n), nth(-1))
				want(t, "Drop", o.Drop(key), true, key)
				wantNone(t, o, key)
				wantAll(t, o, rest...)
				want(t, "Touch", o.Touch(key), true, key)
				wantAll(t, o, append(rest, key)...)
				drain(t, o, append(rest, key)...)
			}
		}
	}
}

// From so many keys all but one are dropped, from either end, or toward it from both.
func TestP12_1_AllButOneGo(t *testing.T) {
	for n := 1; n <= 30; n++ {
		keys := many(n)
		for left, key := range keys {
			for _, drops := range orders(keys) {
				o, rest := filled(t, keys...), keys
				for _, other := range drops {
					if other != key {
						rest = without(rest, other)
						want(t, "Drop", o.Drop(other), true, other)
						wantOldest(t, o, rest)
					}
				}
				wantAll(t, o, key)
				want(t, "Touch", o.Touch(key), false, left)
				wantAll(t, o, key)
				drain(t, o, key)
			}
		}
	}
}

// Keys are told apart by all their bytes, be these text or not, and come back as they were given.
func TestP12_1_OddKeys(t *testing.T) {
	for i, key := range odd {
		o := filled(t, key)
		wantAll(t, o, key)
		wantNone(t, o, without(odd, key)...)
		want(t, "Touch", o.Touch(key), false, i)
		wantAll(t, o, key)
	}
	for _, keys := range orders(odd) {
		o := filled(t, keys...)
		wantAll(t, o, keys...)
		for i, key := range keys {
			want(t, "Touch", o.Touch(key), false, key)
			wantAll(t, o, append(slices.Clone(keys[i+1:]), keys[:i+1]...)...)
		}
		drain(t, o, keys...)
	}
}

// Keys that differ far behind their beginnings alone are told apart.
func TestP12_1_LongKeys(t *testing.T) {
	long := strings.Repeat("x", 1<<16)
	keys := []string{long, long + "\x00", long + "a", long + "b", long + "\xff", long + long}
	for _, l := range orders(keys) {
		o := filled(t, l...)
		wantAll(t, o, l...)
		wantNone(t, o, long[1:], long+"c", "")
		want(t, "Touch", o.Touch(l[2]), false)
		wantAll(t, o, l[0], l[1], l[3], l[4], l[5], l[2])
	}
}

func TestP12_1_TwoOrdersAreApart(t *testing.T) {
	one, two := order.New(), order.New()
	one.Touch("a")
	two.Touch("b")
	two.Touch("a")
	wantAll(t, one, "a")
	wantAll(t, two, "b", "a")
	want(t, "Drop", two.Drop("a"), true)
	wantAll(t, one, "a")
	one.Touch("c")
	wantAll(t, two, "b")
	want(t, "Drop", one.Drop("b"), false)
	wantAll(t, one, "a", "c")
}

func TestP12_2_TheExample(t *testing.T) {
	o := order.New()
	want(t, "Touch", o.Touch("a"), true)
	want(t, "Touch", o.Touch("b"), true)
	want(t, "Touch", o.Touch("a"), false)
	wantAll(t, o, "b", "a")
}

// Walk is stopped at the first key, at each other one, and never: it asks yield no more.
func TestP12_2_WalkIsStopped(t *testing.T) {
	for n := range 40 {
		for _, keys := range orders(many(n)) {
			o := filled(t, keys...)
			for stop := 1; stop <= n; stop++ {
				wantList(t, "Walk", walked(o, stop), keys[:stop]...)
			}
			wantList(t, "Walk", walked(o, n+1), keys...)
			wantAll(t, o, keys...)
		}
	}
}

// Walk is what a range goes over, which is left, goes on, and is ended by a return.
func TestP12_2_ARangeOverWalk(t *testing.T) {
	o := filled(t, "a", "b", "", "c")
	var l []string
	for key := range o.Walk {
		if key == "" {
			continue
		}
		l = append(l, key)
	}
	wantList(t, "all", l, "a", "b", "c")
	l = nil
	for key := range o.Walk {
		l = append(l, key)
		if key == "" {
			break
		}
	}
	wantList(t, "up to the third", l, "a", "b", "")
	first := func() string {
		for key := range o.Walk {
			return key
		}
		return "none"
	}
	want(t, "the first one", first(), "a")
	wantList(t, "collected", slices.Collect(iter.Seq[string](o.Walk)), "a", "b", "", "c")
	wantAll(t, o, "a", "b", "", "c")
}

// While an order is walked through, all else may be asked of it, another walk, too.
func TestP12_2_AskingWithinWalk(t *testing.T) {
	keys := many(9)
	o := filled(t, keys...)
	i := 0
	o.Walk(func(key string) bool {
		want(t, "the key", key, keys[i])
		wantAll(t, o, keys...)
		wantNone(t, o, "", "k")
		wantList(t, "a walk within", walked(o, i+1), keys[:i+1]...)
		i++
		return true
	})
	want(t, "yields", i, len(keys))
	wantAll(t, o, keys...)
}

// walkWith walks through an order, does something behind each key, and tells the keys.
func walkWith(o calls, do func(key string)) []string {
	var l []string
	o.Walk(func(key string) bool {
		l = append(l, key)
		do(key)
		return len(l) < 1000
	})
	return l
}

// Whatever is done to an order while it is walked through, Walk ends, and tells the keys that were there when it began.
func TestP12_2_ChangesWithinWalk(t *testing.T) {
	fresh := 0
	for name, do := range map[string]func(o calls, key string){
		"the key is touched":       func(o calls, key string) { o.Touch(key) },
		"the key goes":             func(o calls, key string) { o.Drop(key) },
		"the key goes, and comes":  func(o calls, key string) { o.Drop(key); o.Touch(key) },
		"the oldest one goes":      func(o calls, _ string) { key, _ := o.Oldest(); o.Drop(key) },
		"the oldest one's touched": func(o calls, _ string) { key, _ := o.Oldest(); o.Touch(key) },
		"the last one goes":        func(o calls, _ string) { o.Drop(append(o.All(), "none")[max(o.Len()-1, 0)]) },
		"a new one comes":          func(o calls, _ string) { fresh++; o.Touch("new" + nth(fresh)) },
		"a new one comes and goes": func(o calls, _ string) { fresh++; o.Touch(nth(-fresh)); o.Drop(nth(-fresh)) },
		"all go":                   func(o calls, _ string) { emptyOut(o) },
		"all go, and come turned":  func(o calls, _ string) { touchAll(o, turned(emptyOut(o))) },
		"all are touched":          func(o calls, _ string) { touchAll(o, o.All()) },
		"a walk within, that ends": func(o calls, _ string) { walked(o, 1); o.Touch(nth(0)) },
		"a walk within changes":    func(o calls, _ string) { walkWith(o, func(key string) { o.Touch(key) }) },
		"the key, and all others":  func(o calls, key string) { o.Drop(key); touchAll(o, turned(o.All())) },
	} {
		t.Run(name, func(t *testing.T) {
			for n := range 20 {
				for _, keys := range orders(many(n)) {
					o, m := filled(t, keys...), modelOf(keys...)
					before := fresh
					l := walkWith(o, func(key string) { do(o, key) })
					fresh = before
					walkWith(m, func(key string) { do(m, key) })
					wantList(t, "Walk", l, keys...)
					all := m.All()
					wantAll(t, o, all...)
					drain(t, o, all...)
				}
			}
		})
	}
}

// emptyOut lets all keys go, and tells them.
func emptyOut(o calls) []string {
	all := o.All()
	for _, key := range all {
		o.Drop(key)
	}
	return all
}

func touchAll(o calls, keys []string) {
	for _, key := range keys {
		o.Touch(key)
	}
}

// At each key of a walk, which is stopped there or goes on, each key is dropped, or touched.
func TestP12_2_AChangeAtEachKeyOfAWalk(t *testing.T) {
	const n = 7
	keys := append(many(n-1), "")
	for at := range n {
		for _, key := range append(keys, "new") {
			for _, stop := range []bool{true, false} {
				for _, drop := range []bool{true, false} {
					o, m := filled(t, keys...), modelOf(keys...)
					for _, x := range []calls{o, m} {
						i := 0
						x.Walk(func(told string) bool {
							want(t, "the key", told, keys[i])
							if i++; i != at+1 {
								return true
							}
							if drop {
								x.Drop(key)
							} else {
								x.Touch(key)
							}
							return !stop
						})
						want(t, "yields", i, map[bool]int{true: at + 1, false: n}[stop])
					}
					wantAll(t, o, m.All()...)
					drain(t, o, m.All()...)
				}
			}
		}
	}
}

// A yield that is nil is told nothing; one that panics ends the walk; behind both the order is what it was.
func TestP12_2_AYieldThatIsNone(t *testing.T) {
	var none *order.Order
	none.Walk(nil)
	new(order.Order).Walk(nil)
	order.New().Walk(nil)
	o := filled(t, "a", "b", "c")
	o.Walk(nil)
	wantAll(t, o, "a", "b", "c")
	for _, fault := range []any{"a text", fmt.Errorf("an error"), 0} {
		var l []string
		o.Walk(func(key string) bool {
			l = append(l, key)
			if key == "b" {
				panic(fault)
			}
			return true
		})
		wantList(t, "Walk", l, "a", "b")
		wantAll(t, o, "a", "b", "c")
	}
	want(t, "Touch", o.Touch("a"), false)
	want(t, "Drop", o.Drop("c"), true)
	wantAll(t, o, "b", "a")
}

// Walks that go on beside one another, and beside changes, tell the keys that were there when each began.
func TestP12_2_WalksBesideChanges(t *testing.T) {
	type walk struct {
		next func() (string, bool)
		rest []string
	}
	for seed := range uint64(60) {
		next := rolled(seed)
		o, m := order.New(), new(model)
		var walks []walk
		for range 400 {
			switch key := nth(next(12)); next(4) {
			case 0:
				want(t, "Drop", o.Drop(key), m.Drop(key), key)
			case 1:
				if len(walks) < 6 && o.Len() > 0 {
					pull, stop := iter.Pull(iter.Seq[string](o.Walk))
					defer stop()
					walks = append(walks, walk{pull, m.All()[1:]})
					key, ok := pull()
					want(t, "the first key", key, m.All()[0], ok)
				}
			case 2:
				if len(walks) == 0 {
					continue
				}
				i := next(len(walks))
				key, ok := walks[i].next()
				want(t, "whether there is a key", ok, len(walks[i].rest) > 0)
				if !ok {
					walks = slices.Delete(walks, i, i+1)
					continue
				}
				want(t, "the key", key, walks[i].rest[0])
				walks[i].rest = walks[i].rest[1:]
			default:
				want(t, "Touch", o.Touch(key), m.Touch(key), key)
			}
			wantAll(t, o, m.All()...)
		}
	}
}

// What was told stays as it is, whatever befalls the order; and the order stays as it is, whatever befalls what was told.
func TestP12_2_WhatWasToldStays(t *testing.T) {
	for n := range 40 {
		keys := many(n)
		o := filled(t, keys...)
		all, again := o.All(), o.All()
		for i := range again {
			again[i] = "spoilt"
		}
		_ = append(again[:len(again)/2], "more", "yet more")
		wantAll(t, o, keys...)
		for i, key := range turned(keys) {
			o.Touch(key)
			o.Touch(nth(n + i))
			o.Drop(nth(i))
		}
		wantList(t, "All, told ahead", all, keys...)
	}
}

// A nil order has nothing, and takes nothing.
func TestP12_2_ANilOrder(t *testing.T) {
	var o *order.Order
	for range 2 {
		wantAll(t, o)
		wantNone(t, o, odd...)
		for _, key := range odd {
			want(t, "Touch", o.Touch(key), false, key)
		}
		wantAll(t, o)
		for key := range o.Walk {
			t.Errorf("%q is told", key)
		}
	}
	if o != nil {
		t.Error("it is nil no more")
	}
}

// The zero order is an empty one, into which keys come, whatever is asked first.
func TestP12_2_TheZeroOrder(t *testing.T) {
	for _, do := range []func(o *order.Order){
		func(o *order.Order) {},
		func(o *order.Order) { want(t, "Len", o.Len(), 0) },
		func(o *order.Order) { want(t, "Drop", o.Drop(""), false) },
		func(o *order.Order) { want(t, "Has", o.Has(""), false) },
		func(o *order.Order) { wantOldest(t, o, nil) },
		func(o *order.Order) { wantList(t, "Walk", walked(o, 0)) },
		func(o *order.Order) { wantList(t, "All", o.All()) },
		func(o *order.Order) { wantAll(t, o) },
	} {
		var o order.Order
		do(&o)
		m := new(model)
		for i := range 100 {
			key := nth(i * 7 % 60)
			want(t, "Touch", o.Touch(key), m.Touch(key), key)
			wantAll(t, &o, m.All()...)
		}
		for i := range 30 {
			want(t, "Drop", o.Drop(nth(2*i)), m.Drop(nth(2*i)), i)
			wantAll(t, &o, m.All()...)
		}
		drain(t, &o, m.All()...)
	}
}

// Whatever short sequence of calls is made, from nothing on, each answer is the one that is meant.
func TestP12_3_AllShortSequences(t *testing.T) {
	steps := []func(o calls) bool{
		func(o calls) bool { return o.Touch("a") },
		func(o calls) bool { return o.Touch("b") },
		func(o calls) bool { return o.Touch("c") },
		func(o calls) bool { return o.Touch("") },
		func(o calls) bool { return o.Drop("a") },
		func(o calls) bool { return o.Drop("b") },
		func(o calls) bool { return o.Drop("") },
	}
	const long = 6
	all := 1
	for range long {
		all *= len(steps)
	}
	for sequence := range all {
		o, m := order.New(), new(model)
		rest := sequence
		for range long {
			step := steps[rest%len(steps)]
			rest /= len(steps)
			want(t, "a step", step(o), step(m), sequence)
			wantOldest(t, o, m.All())
		}
		wantAll(t, o, m.All()...)
		for _, key := range []string{"a", "b", "c", ""} {
			want(t, "Has", o.Has(key), m.Has(key), sequence, key)
		}
	}
}

// Keys are touched and dropped as it comes: few ones, or many, that mostly come, or mostly go.
func TestP12_3_RolledCalls(t *testing.T) {
	for seed := range uint64(120) {
		next := rolled(seed)
		o, m := order.New(), new(model)
		span, drops := 1+next(60), 1+next(7)
		for range 300 {
			key := nth(next(span))
			if next(8) < drops {
				want(t, "Drop", o.Drop(key), m.Drop(key), key)
			} else {
				want(t, "Touch", o.Touch(key), m.Touch(key), key)
			}
			want(t, "Has", o.Has(key), m.Has(key), key)
			wantAll(t, o, m.All()...)
		}
		for i := range span {
			want(t, "Has", o.Has(nth(i)), m.Has(nth(i)), i)
		}
		drain(t, o, m.All()...)
	}
}

// However keys came to be where they are, only when they were touched last counts.
func TestP12_3_TheLastTouchAlone(t *testing.T) {
	keys := append(many(50), "")
	for seed := range uint64(80) {
		next := rolled(seed)
		o := order.New()
		for range 10 + next(300) {
			switch key := nth(next(60)); next(5) {
			case 0:
				o.Drop(key)
			case 1:
				walked(o, next(20))
			case 2:
				o.Touch("")
			default:
				o.Touch(key)
			}
		}
		for i := 50; i < 60; i++ {
			o.Drop(nth(i))
		}
		last := mixed(seed, keys)
		touchAll(o, last)
		wantAll(t, o, last...)
		wantNone(t, o, nth(50), nth(59))
		drain(t, o, last...)
	}
}

// What asks turns nothing.
func TestP12_3_AskingTurnsNothing(t *testing.T) {
	keys := mixed(5, many(33))
	o := filled(t, keys...)
	for range 5 {
		wantAll(t, o, keys...)
		wantNone(t, o, odd...)
		for _, key := range turned(keys) {
			want(t, "Has", o.Has(key), true, key)
		}
		wantList(t, "Walk", walked(o, 3), keys[:3]...)
	}
	drain(t, o, keys...)
}

// An order is emptied, from its oldest key on or otherwise, and filled again, with the same keys and with others.
func TestP12_3_EmptiedAndFilledAgain(t *testing.T) {
	for n := 1; n <= 70; n += 3 {
		o := order.New()
		for round, keys := range []map[string][]string{orders(many(n)), orders(many(2 * n)[n:]), orders(many(n))} {
			for _, puts := range keys {
				for _, drops := range keys {
					for _, key := range puts {
						want(t, "Touch", o.Touch(key), true, round, key)
					}
					wantAll(t, o, puts...)
					for _, key := range drops {
						want(t, "Drop", o.Drop(key), true, round, key)
					}
					wantAll(t, o)
					wantNone(t, o, puts...)
				}
			}
		}
	}
}

// Keys come and go in many orders.
func TestP12_3_ManyInManyOrders(t *testing.T) {
	keys := many(100)
	for came, puts := range orders(keys) {
		for went, drops := range orders(keys) {
			t.Run(came+" "+went, func(t *testing.T) {
				o, rest := order.New(), puts
				for i, key := range puts {
					want(t, "Touch", o.Touch(key), true, key)
					wantAll(t, o, puts[:i+1]...)
				}
				for _, key := range drops {
					rest = without(rest, key)
					want(t, "Drop", o.Drop(key), true, key)
					wantAll(t, o, rest...)
				}
			})
		}
	}
}

// Very many keys, each touched again, and every third one dropped; as many walks are stopped at their first keys.
func TestP12_3_VeryMany(t *testing.T) {
	const n = 1 << 18
	o := order.New()
	for i := range n {
		want(t, "Touch", o.Touch(nth(i)), true, i)
	}
	last := make([]string, 0, n)
	for i := range n {
		key := nth(i * 7919 % n)
		want(t, "Touch", o.Touch(key), false, key)
		if i%3 == 0 {
			want(t, "Drop", o.Drop(key), true, key)
		} else {
			last = append(last, key)
		}
	}
	wantAll(t, o, last...)
	for i := range n {
		wantOldest(t, o, last)
		for key := range o.Walk {
			want(t, "the first key", key, last[0], i)
			break
		}
	}
	drain(t, o, last...)
}

// A walk that has ended, however it did, makes no later call take longer, and no call goes through all keys that need not.
func TestP12_3_NoCallTakesLongBehindAWalk(t *testing.T) {
	o := filled(t, many(1<<12)...)
	i := 0
	for name, do := range map[string]func(){
		"nothing": func() {},
		"a stop":  func() { walked(o, 1) },
		"a range": func() {
			for range o.Walk {
				break
			}
		},
		"a panic": func() { o.Walk(func(string) bool { panic("a text") }) },
		"an end":  func() { o.Walk(func(string) bool { return true }) },
		"no end":  func() { o.Walk(nil) },
	} {
		made := testing.AllocsPerRun(100, func() {
			do()
			o.Touch(nth(i % (1 << 12)))
			o.Drop("none")
			o.Oldest()
			i++
		})
		if made > 10 {
			t.Errorf("behind %s: %v things are made", name, made)
		}
	}
}

// held is how many bytes are held on to.
func held() int64 {
	var m runtime.MemStats
	runtime.GC()
	runtime.GC()
	runtime.ReadMemStats(&m)
	return int64(m.HeapAlloc)
}

// wantLittle looks at what is held on to, behind a time at which it was less.
func wantLittle(t *testing.T, what string, before int64) {
	t.Helper()
	if more := held() - before; more > 1<<20 {
		t.Errorf("%s: %d bytes are held on to", what, more)
	}
}

// Keys that went are held on to no more, be there others left, or not; nor is the room in which very many were, nor what was walked through.
func TestP12_3_NothingIsHeldOfKeysThatWent(t *testing.T) {
	before := held()
	o := order.New()
	o.Touch("stays")
	fill := func(n, long int) {
		for i := range n {
			o.Touch(strings.Repeat("x", long) + nth(i))
		}
	}
	drop := func(n, long int) {
		for i := range n {
			o.Drop(strings.Repeat("x", long) + nth(i))
		}
	}
	fill(7, 1<<21)
	drop(7, 1<<21)
	wantLittle(t, "long keys, dropped", before)
	fill(40, 1<<21)
	fill(40, 1<<21)
	drop(40, 1<<21)
	wantLittle(t, "more long keys, touched again, and dropped", before)
	fill(1<<17, 0)
	drop(1<<17, 0)
	wantLittle(t, "very many keys, dropped", before)
	fill(40, 1<<21)
	for key := range o.Walk {
		if key != "stays" {
			o.Drop(key)
		}
	}
	wantLittle(t, "long keys, dropped while they were walked through", before)
	wantAll(t, o, "stays")
}
