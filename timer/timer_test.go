package timer_test

import (
	"fmt"
	"math"
	"runtime"
	"slices"
	"strconv"
	"strings"
	"testing"

	"mews/api"
	"mews/timer"
)

const (
	least    = math.MinInt64
	greatest = math.MaxInt64
)

// odd are keys that are nothing, or have odd bytes, rising.
var odd = []string{"", "\x00", "\x00\x00", "\x00a", "\n", "\r\n", " ", "10", "9", "A", "B", "a", "a\x00", "aa", "ab", "b", "\x7f", "\x80", "\x80a", "\xc3\x28", "é", "\xef\xbf\xbd", "\U00010000", "\U0010ffff", "\xff", "\xff\x00", "\xff\xff"}

// edges are times at the ends of all times, around 0, and such as are told apart by their high bits or low bits alone; rising.
var edges = []int64{least, least + 1, -1 << 32, math.MinInt32, -10, -9, -2, -1, 0, 1, 2, 9, 10, math.MaxInt32, 1 << 32, 1<<53 + 1, greatest - 1, greatest}

func timed(key string, at int64) api.Timed { return api.Timed{Key: key, At: at} }

// row are keys as they are written in a row: "a:1 :-2" are a at 1 and the empty key at -2.
func row(s string) []api.Timed {
	var l []api.Timed
	for _, x := range strings.Fields(s) {
		key, text, _ := strings.Cut(x, ":")
		at, err := strconv.ParseInt(text, 10, 64)
		if err != nil {
			panic(err)
		}
		l = append(l, timed(key, at))
	}
	return l
}

// nth are keys in an order that is not that of the numbers.
func nth(i int) string { return "k" + strconv.Itoa(i) }

// alike are keys of one time.
func alike(at int64, keys ...string) []api.Timed {
	var l []api.Timed
	for _, key := range keys {
		l = append(l, timed(key, at))
	}
	return l
}

// keysOf are the keys of a row.
func keysOf(l []api.Timed) []string {
	var keys []string
	for _, x := range l {
		keys = append(keys, x.Key)
	}
	return keys
}

// rolled gives numbers below n that look as if they were thrown; of one seed always the same ones.
func rolled(seed uint64) func(n int) int {
	return func(n int) int {
		seed = seed*6364136223846793005 + 1442695040888963407
		return int((seed ^ seed>>29) >> 11 % uint64(n))
	}
}

// mixed are things in some order of a seed.
func mixed[V any](seed uint64, l []V) []V {
	l = slices.Clone(l)
	next := rolled(seed)
	for i := range l {
		j := i + next(len(l)-i)
		l[i], l[j] = l[j], l[i]
	}
	return l
}

func turned[V any](l []V) []V {
	l = slices.Clone(l)
	slices.Reverse(l)
	return l
}

// orders are some orders of things.
func orders[V any](l []V) map[string][]V {
	return map[string][]V{
		"rising":  l,
		"falling": turned(l),
		"mixed":   mixed(1, l),
		"other":   mixed(2, l),
		"halves":  append(slices.Clone(l[len(l)/2:]), l[:len(l)/2]...),
	}
}

// many are n keys, in order, of which some have one time.
func many(n int) []api.Timed {
	var l []api.Timed
	for i := range n {
		l = append(l, timed(nth(i), int64(i*31%n/3-n/7)))
	}
	slices.SortFunc(l, order)
	return l
}

// filled is a timer in which keys were set, one behind the other.
func filled(t *testing.T, l ...api.Timed) *timer.Timer {
	t.Helper()
	tm := timer.New()
	for _, x := range l {
		want(t, "Set", tm.Set(x.Key, x.At), true, x)
	}
	return tm
}

// modelOf is a model with keys, in any order.
func modelOf(l ...api.Timed) *model {
	return &model{slices.SortedFunc(slices.Values(l), order)}
}

// told is how things are shown: of very many the first ones.
func told(x any) string {
	s := fmt.Sprintf("%#v", x)
	return s[:min(len(s), 600)]
}

// want holds what a call with some arguments answered against what it should.
func want[V comparable](t *testing.T, call string, got, meant V, args ...any) {
	if got != meant {
		t.Helper()
		t.Fatalf("%s of %s: %s; want %s", call, told(args), told(got), told(meant))
	}
}

// wantList holds a list that was told against what it should be.
func wantList[V comparable](t *testing.T, what string, l []V, meant ...V) {
	if !slices.Equal(l, meant) {
		t.Helper()
		t.Fatalf("%s: %s; want %s", what, told(l), told(meant))
	}
}

func wantAt(t *testing.T, tm calls, key string, meant int64, there bool) {
	if at, ok := tm.At(key); at != meant || ok != there {
		t.Helper()
		t.Fatalf("At(%q): %d, %v; want %d, %v", key, at, ok, meant, there)
	}
}

// wantFirst asks for the first key: of those that are meant, in order.
func wantFirst(t *testing.T, tm calls, all []api.Timed) {
	var meant api.Timed
	if len(all) > 0 {
		meant = all[0]
	}
	if x, ok := tm.First(); x != meant || ok != (len(all) > 0) {
		t.Helper()
		t.Fatalf("First: %s, %v; want %s, %v", told(x), ok, told(meant), len(all) > 0)
	}
}

// wantAll holds all that a timer tells, without a change, against its keys, in order.
func wantAll(t *testing.T, tm calls, all ...api.Timed) {
	t.Helper()
	want(t, "Len", tm.Len(), len(all))
	wantList(t, "All", tm.All(), all...)
	wantFirst(t, tm, all)
	for _, x := range all {
		wantAt(t, tm, x.Key, x.At, true)
	}
}

// wantNone asks for keys that are not there.
func wantNone(t *testing.T, tm calls, keys ...string) {
	t.Helper()
	for _, key := range keys {
		wantAt(t, tm, key, 0, false)
		want(t, "Drop", tm.Drop(key), false, key)
	}
}

// drain lets all keys go, the first one each time: they are those that are meant, in order.
func drain(t *testing.T, tm calls, all ...api.Timed) {
	t.Helper()
	for i, x := range all {
		wantFirst(t, tm, all[i:])
		want(t, "Drop", tm.Drop(x.Key), true, x)
		want(t, "Len", tm.Len(), len(all)-i-1)
	}
	wantAll(t, tm)
	wantList(t, "Due", tm.Due(greatest))
}

func TestP11_1_NewIsEmpty(t *testing.T) {
	for range 3 {
		tm := timer.New()
		if tm == nil {
			t.Fatal("New: nil")
		}
		wantAll(t, tm)
		wantNone(t, tm, odd...)
		for _, now := range edges {
			wantList(t, "Due", tm.Due(now))
		}
		wantAll(t, tm)
		want(t, "Set", tm.Set("", 0), true)
		wantAll(t, tm, timed("", 0))
	}
}

func TestP11_1_ByHand(t *testing.T) {
	tm := timer.New()
	for i, x := range []struct {
		set bool
		key string
		at  int64
		ok  bool
		all string
	}{
		{false, "a", 0, false, ""},
		{true, "b", 5, true, "b:5"},
		{true, "b", 5, false, "b:5"},
		{true, "a", 5, true, "a:5 b:5"},
		{true, "c", 1, true, "c:1 a:5 b:5"},
		{true, "b", 0, false, "b:0 c:1 a:5"},
		{true, "", 3, true, "b:0 c:1 :3 a:5"},
		{true, "b", 4, false, "c:1 :3 b:4 a:5"},
		{true, "c", 9, false, ":3 b:4 a:5 c:9"},
		{true, "c", 5, false, ":3 b:4 a:5 c:5"},
		{true, "a", 6, false, ":3 b:4 c:5 a:6"},
		{false, "d", 0, false, ":3 b:4 c:5 a:6"},
		{false, "c\x00", 0, false, ":3 b:4 c:5 a:6"},
		{false, "", 0, true, "b:4 c:5 a:6"},
		{false, "", 0, false, "b:4 c:5 a:6"},
		{false, "a", 0, true, "b:4 c:5"},
		{true, "a", -7, true, "a:-7 b:4 c:5"},
		{false, "b", 0, true, "a:-7 c:5"},
		{true, "a", 7, false, "c:5 a:7"},
		{false, "c", 0, true, "a:7"},
		{false, "a", 0, true, ""},
		{false, "a", 0, false, ""},
		{true, "a", 7, true, "a:7"},
	} {
		if x.set {
			want(t, "Set", tm.Set(x.key, x.at), x.ok, i, x.key, x.at)
		} else {
			want(t, "Drop", tm.Drop(x.key), x.ok, i, x.key)
		}
		wantAll(t, tm, row(x.all)...)
		wantNone(t, tm, "d", "A", "a\x00", " ", "ab")
	}
}

// A time is told as it was given, from the least to the greatest, and a key that has the time 0 is there.
func TestP11_1_EachTime(t *testing.T) {
	for _, at := range edges {
		tm := timer.New()
		want(t, "Set", tm.Set("a", at), true, at)
		wantAll(t, tm, timed("a", at))
		wantAt(t, tm, "b", 0, false)
		for _, other := range edges {
			want(t, "Set", tm.Set("a", other), false, other)
			wantAll(t, tm, timed("a", other))
		}
		want(t, "Drop", tm.Drop("a"), true)
		wantAll(t, tm)
		wantAt(t, tm, "a", 0, false)
	}
}

// Each key of so many, set anew to each time: that of each other key, one less, one more.
func TestP11_1_SetAnewToAnyTime(t *testing.T) {
	for n := 1; n <= 18; n++ {
		var all []api.Timed
		for i := range n {
			all = append(all, timed(nth(i*19%n), int64(4*(i/2))))
		}
		for _, puts := range orders(all) {
			for _, x := range all {
				for at := int64(-1); at <= int64(2*n+1); at++ {
					tm, m := filled(t, puts...), modelOf(all...)
					want(t, "Set", tm.Set(x.Key, at), m.Set(x.Key, at), x, at)
					wantAll(t, tm, m.l...)
					drain(t, tm, m.l...)
				}
			}
		}
	}
}

// From so many keys each one is dropped: the first one, the last one, one between; another one is not there.
func TestP11_1_DropOfEach(t *testing.T) {
	for n := 1; n <= 40; n++ {
		for _, puts := range orders(many(n)) {
			for i := range n {
				tm, m := filled(t, puts...), modelOf(puts...)
				key := m.l[i].Key
				wantNone(t, tm, "", "k", key+"\x00", nth(n), nth(-1))
				want(t, "Drop", tm.Drop(key), m.Drop(key), key)
				wantNone(t, tm, key)
				wantAll(t, tm, m.l...)
				want(t, "Set", tm.Set(key, 0), m.Set(key, 0), key)
				drain(t, tm, m.l...)
			}
		}
	}
}

func TestP11_1_TwoTimersAreApart(t *testing.T) {
	one, two := timer.New(), timer.New()
	one.Set("a", 1)
	two.Set("a", 2)
	two.Set("b", 1)
	wantAll(t, one, row("a:1")...)
	wantAll(t, two, row("b:1 a:2")...)
	wantList(t, "Due", two.Due(5), "b", "a")
	wantAll(t, one, row("a:1")...)
	wantAll(t, two)
}

func TestP11_2_TheExample(t *testing.T) {
	for _, l := range [][]api.Timed{row("b:1 a:2 c:1"), row("c:1 a:2 b:1"), row("a:2 c:1 b:1")} {
		tm := filled(t, l...)
		wantAll(t, tm, row("b:1 c:1 a:2")...)
		wantList(t, "Due", tm.Due(1), "b", "c")
		wantAll(t, tm, row("a:2")...)
	}
}

func TestP11_2_DueByHand(t *testing.T) {
	for _, x := range []struct {
		all, due, left string
		now            int64
	}{
		{"", "", "", 0},
		{"", "", "", greatest},
		{"a:5", "", "a:5", 4},
		{"a:5", "a", "", 5},
		{"a:5", "a", "", 6},
		{"a:5 b:5", "", "a:5 b:5", 4},
		{"b:5 a:5", "a b", "", 5},
		{"c:1 b:2 a:3", "", "c:1 b:2 a:3", 0},
		{"c:1 b:2 a:3", "c", "b:2 a:3", 1},
		{"c:1 b:2 a:3", "c b", "a:3", 2},
		{"c:1 b:2 a:3", "c b a", "", 3},
		{"c:1 b:2 a:3", "c b a", "", greatest},
		{"c:1 b:2 a:3", "", "c:1 b:2 a:3", -1},
		{"c:1 b:2 a:3", "", "c:1 b:2 a:3", least},
		{"a:9223372036854775807 b:9223372036854775806", "b", "a:9223372036854775807", greatest - 1},
		{"a:9223372036854775807 b:9223372036854775806", "b a", "", greatest},
		{"a:-9223372036854775808 b:-9223372036854775807", "a", "b:-9223372036854775807", least},
		{"b:-9223372036854775808 a:-9223372036854775808", "a b", "", least},
		{"b:-9223372036854775808 a:9223372036854775807", "b", "a:9223372036854775807", greatest - 1},
		{"a:9223372036854775807 b:-9223372036854775808 c:0", "b c", "a:9223372036854775807", 0},
		{"a:9223372036854775807 b:-9223372036854775808 c:0", "b", "c:0 a:9223372036854775807", -1},
		{"d:-1 c:1 b:0 a:-2", "a d b", "c:1", 0},
		{"a:10 b:9 c:100 d:-10 e:-9", "d e b a", "c:100", 10},
	} {
		puts := row(x.all)
		for _, l := range orders(puts) {
			tm := filled(t, l...)
			wantList(t, "Due", tm.Due(x.now), strings.Fields(x.due)...)
			wantAll(t, tm, row(x.left)...)
			wantNone(t, tm, strings.Fields(x.due)...)
			wantList(t, "Due again", tm.Due(x.now))
			wantAll(t, tm, row(x.left)...)
		}
	}
}

// Keys at all edges, and Due at each of them: all up to it go.
func TestP11_2_DueAtTheEdges(t *testing.T) {
	var all []api.Timed
	for _, at := range edges {
		all = append(all, alike(at, strconv.FormatInt(at, 10), strconv.FormatInt(at, 10)+"x")...)
	}
	for _, puts := range orders(all) {
		for i, now := range edges {
			tm := filled(t, puts...)
			wantAll(t, tm, all...)
			wantList(t, "Due", tm.Due(now), keysOf(all[:2*i+2])...)
			wantAll(t, tm, all[2*i+2:]...)
			if now < greatest {
				wantList(t, "Due", tm.Due(now+1), modelOf(all[2*i+2:]...).Due(now+1)...)
			}
		}
	}
}

// Of one time keys stand byte by byte, be that the least time, the greatest one, or another one.
func TestP11_2_TimesAlike(t *testing.T) {
	for _, at := range edges {
		rising := alike(at, odd...)
		for seed, puts := range [][]api.Timed{rising, turned(rising), mixed(1, rising), mixed(2, rising), mixed(3, rising)} {
			tm := filled(t, puts...)
			wantAll(t, tm, rising...)
			for _, x := range mixed(uint64(seed), rising) {
				want(t, "Set again", tm.Set(x.Key, x.At), false, x)
				wantAll(t, tm, rising...)
			}
			if at > least {
				wantList(t, "Due", tm.Due(at-1))
			}
			wantList(t, "Due", tm.Due(at), odd...)
			wantAll(t, tm)
			drain(t, filled(t, puts...), rising...)
		}
	}
}

// Keys that differ far behind their beginnings alone are told apart, and so are their orders.
func TestP11_2_LongKeys(t *testing.T) {
	long := strings.Repeat("x", 1<<16)
	rising := alike(7, long, long+"\x00", long+"a", long+"b", long+"\xff", long+long)
	slices.SortFunc(rising, order)
	for _, puts := range orders(rising) {
		tm := filled(t, puts...)
		wantAll(t, tm, rising...)
		wantNone(t, tm, long[1:], long+"c")
		drain(t, tm, rising...)
	}
}

// What was told stays as it is, whatever befalls the timer; and the timer stays as it is, whatever befalls what was told.
func TestP11_2_WhatWasToldStays(t *testing.T) {
	for n := range 40 {
		l := many(n)
		tm := filled(t, mixed(uint64(n), l)...)
		all, again := tm.All(), tm.All()
		for i := range again {
			again[i] = timed("spoilt", -77)
		}
		_ = append(again[:len(again)/2], timed("more", -78), timed("more", -79))
		wantAll(t, tm, l...)
		for i, x := range l {
			tm.Set(nth(n+i), x.At)
			tm.Set(x.Key, -x.At)
		}
		wantList(t, "All, told ahead", all, l...)
		due := tm.Due(greatest)
		before := slices.Clone(due)
		for _, x := range l {
			tm.Set("new"+x.Key, x.At)
		}
		other := tm.Due(greatest)
		for i := range other {
			other[i] = "spoilt"
		}
		wantList(t, "All, told ahead", all, l...)
		wantList(t, "Due, told ahead", due, before...)
		wantAll(t, tm)
	}
}

// A nil timer has nothing, and takes nothing.
func TestP11_2_ANilTimer(t *testing.T) {
	var tm *timer.Timer
	for range 2 {
		wantAll(t, tm)
		wantNone(t, tm, odd...)
		for _, at := range edges {
			want(t, "Set", tm.Set("a", at), false, at)
			want(t, "Set", tm.Set("", at), false, at)
			wantList(t, "Due", tm.Due(at))
		}
		wantNone(t, tm, "a")
	}
	if tm != nil {
		t.Error("it is nil no more")
	}
}

// The zero timer is an empty one, into which keys come, whatever is asked first.
func TestP11_2_TheZeroTimer(t *testing.T) {
	for _, do := range []func(tm *timer.Timer){
		func(tm *timer.Timer) {},
		func(tm *timer.Timer) { want(t, "Len", tm.Len(), 0) },
		func(tm *timer.Timer) { want(t, "Drop", tm.Drop(""), false) },
		func(tm *timer.Timer) { wantAt(t, tm, "", 0, false) },
		func(tm *timer.Timer) { wantFirst(t, tm, nil) },
		func(tm *timer.Timer) { wantList(t, "Due", tm.Due(greatest)) },
		func(tm *timer.Timer) { wantList(t, "All", tm.All()) },
		func(tm *timer.Timer) { wantAll(t, tm) },
	} {
		var tm timer.Timer
		do(&tm)
		m := new(model)
		for i := range 100 {
			key, at := nth(i*7%60), int64(i*31%11-5)
			want(t, "Set", tm.Set(key, at), m.Set(key, at), key, at)
			wantAll(t, &tm, m.l...)
		}
		for i := range 30 {
			want(t, "Drop", tm.Drop(nth(2*i)), m.Drop(nth(2*i)), i)
			wantAll(t, &tm, m.l...)
		}
		drain(t, &tm, m.l...)
	}
}

// Whatever short sequence of calls is made, from nothing on, each answer is the one that is meant.
func TestP11_3_AllShortSequences(t *testing.T) {
	steps := []func(tm calls) (bool, []string){
		func(tm calls) (bool, []string) { return tm.Set("a", 0), nil },
		func(tm calls) (bool, []string) { return tm.Set("a", 1), nil },
		func(tm calls) (bool, []string) { return tm.Set("b", 0), nil },
		func(tm calls) (bool, []string) { return tm.Set("b", 2), nil },
		func(tm calls) (bool, []string) { return tm.Set("c", 1), nil },
		func(tm calls) (bool, []string) { return tm.Drop("a"), nil },
		func(tm calls) (bool, []string) { return tm.Drop("b"), nil },
		func(tm calls) (bool, []string) { return false, tm.Due(0) },
		func(tm calls) (bool, []string) { return false, tm.Due(1) },
	}
	const long = 5
	all := 1
	for range long {
		all *= len(steps)
	}
	for sequence := range all {
		tm, m := timer.New(), new(model)
		rest := sequence
		for range long {
			step := steps[rest%len(steps)]
			rest /= len(steps)
			ok, due := step(tm)
			meant, went := step(m)
			want(t, "a step", ok, meant, sequence)
			wantList(t, "Due", due, went...)
			wantAll(t, tm, m.l...)
		}
	}
}

// Time goes on while keys are set, earlier and later than now, set anew and dropped: what is due goes in order, and nothing that is left is due.
func TestP11_3_AsTimeGoesOn(t *testing.T) {
	for seed := range uint64(60) {
		next := rolled(seed)
		tm, m := timer.New(), new(model)
		span := 1 + next(200)
		for now := int64(0); now < 300; now += int64(next(4)) {
			for range next(6) {
				key, at := nth(next(span)), now+int64(next(60))-5
				want(t, "Set", tm.Set(key, at), m.Set(key, at), key, at)
			}
			for range next(3) {
				key := nth(next(span))
				want(t, "Drop", tm.Drop(key), m.Drop(key), key)
			}
			due := tm.Due(now)
			wantList(t, "Due", due, m.Due(now)...)
			wantNone(t, tm, due...)
			if x, ok := tm.First(); ok && x.At <= now {
				t.Fatalf("at %d %s is left", now, told(x))
			}
			wantAll(t, tm, m.l...)
		}
		drain(t, tm, m.l...)
	}
}

// Due may be asked of an earlier time than it was asked of before.
func TestP11_3_TimeMayGoBack(t *testing.T) {
	tm := filled(t, row("a:1 b:5 c:9")...)
	wantList(t, "Due(6)", tm.Due(6), "a", "b")
	tm.Set("a", 3)
	wantList(t, "Due(2)", tm.Due(2))
	wantList(t, "Due(3)", tm.Due(3), "a")
	tm.Set("b", least)
	wantList(t, "Due(least)", tm.Due(least), "b")
	wantAll(t, tm, row("c:9")...)
}

// From many keys, that came in many orders, those that are due go, at each time.
func TestP11_3_ManyAtEachTime(t *testing.T) {
	l := many(70)
	for came, puts := range orders(l) {
		t.Run(came, func(t *testing.T) {
			for now := l[0].At - 1; now <= l[len(l)-1].At+1; now++ {
				tm, m := filled(t, puts...), modelOf(l...)
				wantList(t, "Due", tm.Due(now), m.Due(now)...)
				wantAll(t, tm, m.l...)
				drain(t, tm, m.l...)
			}
		})
	}
}

// However keys came to their last times, what is told is alike.
func TestP11_4_TheLastTimeAlone(t *testing.T) {
	l := many(50)
	gone := []string{"x", "y", "", "k"}
	for seed := range uint64(80) {
		next := rolled(seed)
		tm := timer.New()
		for range 10 + next(300) {
			switch next(8) {
			case 0:
				tm.Drop(nth(next(60)))
			case 1:
				tm.Due(int64(next(30) - 20))
			case 2:
				tm.Set(gone[next(len(gone))], int64(next(40)-20))
			case 3:
				tm.All()
			default:
				tm.Set(nth(next(50)), int64(next(80)-40))
			}
		}
		for i := 50; i < 60; i++ {
			tm.Drop(nth(i))
		}
		for _, key := range gone {
			tm.Drop(key)
		}
		for _, x := range mixed(seed, l) {
			tm.Set(x.Key, x.At)
		}
		wantAll(t, tm, l...)
		wantNone(t, tm, append(gone, nth(50))...)
		now := int64(next(40) - 20)
		m := modelOf(l...)
		wantList(t, "Due", tm.Due(now), m.Due(now)...)
		drain(t, tm, m.l...)
	}
}

// What asks turns nothing.
func TestP11_4_AskingTurnsNothing(t *testing.T) {
	l := many(33)
	tm := filled(t, mixed(5, l)...)
	for range 5 {
		wantAll(t, tm, l...)
		wantNone(t, tm, odd...)
		wantList(t, "Due", tm.Due(l[0].At-1))
		wantList(t, "Due", tm.Due(least))
	}
	drain(t, tm, l...)
}

// Keys come and go in many orders.
func TestP11_4_ManyInManyOrders(t *testing.T) {
	l := many(120)
	for came, puts := range orders(l) {
		for went, drops := range orders(l) {
			t.Run(came+" "+went, func(t *testing.T) {
				tm, m := timer.New(), new(model)
				for _, x := range puts {
					want(t, "Set", tm.Set(x.Key, x.At), m.Set(x.Key, x.At), x)
					wantFirst(t, tm, m.l)
				}
				wantAll(t, tm, l...)
				for _, x := range drops {
					want(t, "Drop", tm.Drop(x.Key), m.Drop(x.Key), x)
					wantAll(t, tm, m.l...)
				}
			})
		}
	}
}

// Very many keys, of which each is set anew, and every third one dropped.
func TestP11_4_VeryMany(t *testing.T) {
	const n = 1 << 18
	tm := timer.New()
	last := make([]api.Timed, 0, n)
	for i := range n {
		want(t, "Set", tm.Set(nth(i), int64(i*7919%n)), true, i)
	}
	for i := range n {
		x := timed(nth(i), int64(i*104729%n/4))
		want(t, "Set", tm.Set(x.Key, x.At), false, x)
		if i%3 == 0 {
			want(t, "Drop", tm.Drop(x.Key), true, x)
		} else {
			last = append(last, x)
		}
	}
	slices.SortFunc(last, order)
	wantAll(t, tm, last...)
	for now := int64(0); now < n/4; now += n / 64 {
		i := slices.IndexFunc(last, func(x api.Timed) bool { return x.At > now })
		wantList(t, "Due", tm.Due(now), keysOf(last[:i])...)
		last = last[i:]
	}
	wantList(t, "Due", tm.Due(n), keysOf(last)...)
	wantAll(t, tm)
}

// held is how many bytes are held on to.
func held() int64 {
	var m runtime.MemStats
	runtime.GC()
	runtime.GC()
	runtime.ReadMemStats(&m)
	return int64(m.HeapAlloc)
}

// wantLittle looks at what is held on to, behind a time at which it was less.
func wantLittle(t *testing.T, what string, before int64) {
	t.Helper()
	if more := held() - before; more > 1<<20 {
		t.Errorf("%s: %d bytes are held on to", what, more)
	}
}

// Keys that went are held on to no more, be there others left, or not; nor is the room in which very many were.
func TestP11_4_NothingIsHeldOfKeysThatWent(t *testing.T) {
	before := held()
	tm := timer.New()
	tm.Set("stays", greatest)
	fill := func(n, long int) {
		for i := range n {
			tm.Set(strings.Repeat("x", long)+nth(i), int64(i))
		}
	}
	drop := func(n, long int) {
		for i := range n {
			tm.Drop(strings.Repeat("x", long) + nth(i))
		}
	}
	fill(7, 1<<21)
	drop(7, 1<<21)
	wantLittle(t, "long keys, dropped", before)
	fill(40, 1<<21)
	drop(40, 1<<21)
	wantLittle(t, "more long keys, dropped", before)
	fill(40, 1<<21)
	tm.Due(1000)
	wantLittle(t, "long keys that were due", before)
	fill(1<<17, 0)
	drop(1<<17, 0)
	wantLittle(t, "very many keys, dropped", before)
	fill(1<<17, 0)
	tm.Due(1 << 20)
	wantLittle(t, "very many keys that were due", before)
	wantAll(t, tm, timed("stays", greatest))
}
