package skip_test

import (
	"fmt"
	"math"
	"math/bits"
	"slices"
	"strconv"
	"strings"
	"testing"

	"mews/api"
	"mews/hash"
	"mews/skip"
)

const (
	least    = math.MinInt64
	greatest = math.MaxInt64
)

// seeds are those of the lists in which calls are made: of some of them members of one byte stand in very many levels.
var seeds = []uint64{1, 2, 3, 77, 1 << 63, math.MaxUint64, seedOf("a", math.MaxUint64), seedOf("b", math.MaxUint64), seedOf("", 1<<20-1)}

// tall are members that stand in 13, 14, 15 levels and, three times, in 16 ones by the seed 0; of the last two ones even more of the lowest pairs of bits are 11.
var tall = []string{"m1wvol", "muyruu", "m56yr7", "mjdb3tb", "m15xpnf3", "m1kc10cb", "manmg3j", "m16fdh60"}

// odd are members that are nothing, or have odd bytes, rising.
var odd = []string{"", "\x00", "\x00\x00", "\x00a", "\n", "\r\n", " ", "A", "B", "a", "a\x00", "aa", "ab", "b", "\x7f", "\x80", "\x80a", "\xc3\x28", "é", "\xef\xbf\xbd", "\U00010000", "\U0010ffff", "\xff", "\xff\x00", "\xff\xff"}

// seedOf is the seed by which a member has a number: what makes the number of the seed is undone.
func seedOf(member string, number uint64) uint64 {
	h := number ^ number>>33
	for _, factor := range []uint64{14181476777654086739, 18397679294719823053} {
		h *= undone(factor)
		h ^= h >> 33
	}
	for i := len(member) - 1; i >= 0; i-- {
		h = h*undone(1099511628211) ^ uint64(member[i])
	}
	return h ^ 14695981039346656037
}

// undone is the number by which what an odd number multiplied is made what it was, modulo 2^64.
func undone(n uint64) uint64 {
	u := n
	for range 6 {
		u *= 2 - n*u
	}
	return u
}

func TestSeedOf(t *testing.T) {
	for _, member := range append(tall, odd...) {
		for _, number := range []uint64{0, 1, 3, 77, 1<<30 - 1, 1 << 63, math.MaxUint64} {
			if n := hash.Of(seedOf(member, number), member); n != number {
				t.Fatalf("%q: %d; want %d", member, n, number)
			}
		}
	}
	for i, member := range tall {
		if pairs := bits.TrailingZeros64(^hash.Of(0, member)) / 2; pairs != []int{12, 13, 14, 15, 15, 15, 16, 17}[i] {
			t.Fatalf("%q: %d", member, pairs)
		}
	}
}

func pair(member string, score int64) api.Scored { return api.Scored{Member: member, Score: score} }

// row are pairs as they are written in a row: "a:1 :-2" are a with 1 and the empty member with -2.
func row(s string) []api.Scored {
	var l []api.Scored
	for _, x := range strings.Fields(s) {
		member, text, _ := strings.Cut(x, ":")
		score, err := strconv.ParseInt(text, 10, 64)
		if err != nil {
			panic(err)
		}
		l = append(l, pair(member, score))
	}
	return l
}

// nth are members in an order that is not that of the numbers.
func nth(i int) string { return "k" + strconv.Itoa(i) }

// pairs are the pairs of these members with these scores, one by one.
func pairs(scores []int64, members ...string) []api.Scored {
	var l []api.Scored
	for _, score := range scores {
		for _, member := range members {
			l = append(l, pair(member, score))
		}
	}
	return l
}

// filled is a list of a seed into which pairs were put.
func filled(t *testing.T, seed uint64, l ...api.Scored) *skip.List {
	t.Helper()
	list := skip.New(seed)
	for _, x := range l {
		want(t, "Put", list.Put(x), true, x)
	}
	return list
}

// rolled gives numbers below n that look as if they were thrown; of one seed always the same ones.
func rolled(seed uint64) func(n int) int {
	return func(n int) int {
		seed = seed*6364136223846793005 + 1442695040888963407
		return int((seed ^ seed>>29) >> 11 % uint64(n))
	}
}

// mixed are things in some order of a seed.
func mixed[V any](seed uint64, l []V) []V {
	l = slices.Clone(l)
	next := rolled(seed)
	for i := range l {
		j := i + next(len(l)-i)
		l[i], l[j] = l[j], l[i]
	}
	return l
}

func turned[V any](l []V) []V {
	l = slices.Clone(l)
	slices.Reverse(l)
	return l
}

// told is how pairs, and other things, are shown: of very many pairs the first ones.
func told(x any) string {
	if l, ok := x.([]api.Scored); ok && len(l) > 30 {
		return fmt.Sprintf("%d pairs: %#v ..", len(l), l[:30])
	}
	return fmt.Sprintf("%#v", x)
}

// want holds what a call with some arguments answered against what it should.
func want[V comparable](t *testing.T, call string, got, meant V, args ...any) {
	if got != meant {
		t.Helper()
		t.Fatalf("%s of %s: %s; want %s", call, told(args), told(got), told(meant))
	}
}

func wantPairs(t *testing.T, what string, l []api.Scored, meant ...api.Scored) {
	if !slices.Equal(l, meant) {
		t.Helper()
		t.Fatalf("%s: %s; want %s", what, told(l), told(meant))
	}
}

func wantCut(t *testing.T, l calls, from, to int, meant ...api.Scored) {
	if cut := l.Cut(from, to); !slices.Equal(cut, meant) {
		t.Helper()
		t.Fatalf("Cut(%d, %d) of %d: %s; want %s", from, to, l.Len(), told(cut), told(meant))
	}
}

func wantAt(t *testing.T, l calls, rank int, meant api.Scored, there bool) {
	if x, ok := l.At(rank); x != meant || ok != there {
		t.Helper()
		t.Fatalf("At(%d) of %d: %s, %v; want %s, %v", rank, l.Len(), told(x), ok, told(meant), there)
	}
}

// wantAll holds a list against its pairs, in order.
func wantAll(t *testing.T, l calls, all ...api.Scored) {
	t.Helper()
	want(t, "Len", l.Len(), len(all))
	wantCut(t, l, 0, len(all)-1, all...)
	for rank, x := range all {
		wantAt(t, l, rank, x, true)
		want(t, "Rank", l.Rank(x), rank, x)
		want(t, "Ahead", l.Ahead(x), rank, x)
	}
}

// extremes are ranks that no list has.
var extremes = []int{math.MinInt, math.MinInt + 1, math.MinInt32, -1 << 20, 1 << 20, math.MaxInt32, 1 << 32, math.MaxInt - 1, math.MaxInt}

// ranks are all that a list of n pairs has, and some below and behind.
func ranks(n int) []int {
	var l []int
	for rank := -n - 2; rank <= n+2; rank++ {
		l = append(l, rank)
	}
	return append(l, extremes...)
}

// beside are pairs just ahead of a pair, just behind it, and it itself.
func beside(x api.Scored) []api.Scored {
	l := []api.Scored{x, pair(x.Member+"\x00", x.Score), pair(x.Member+"\xff", x.Score), pair("", x.Score), pair("\xff\xff\xff", x.Score)}
	if n := len(x.Member); n > 0 {
		l = append(l, pair(x.Member[:n-1], x.Score), pair(x.Member[:n-1]+string([]byte{x.Member[n-1] - 1}), x.Score), pair(x.Member[:n-1]+string([]byte{x.Member[n-1] + 1}), x.Score))
	}
	for _, score := range scoresBeside(x.Score) {
		l = append(l, pair(x.Member, score))
	}
	return l
}

// scoresBeside are a score, and those one less and one more, if there are such.
func scoresBeside(score int64) []int64 {
	l := []int64{score}
	if score > least {
		l = append(l, score-1)
	}
	if score < greatest {
		l = append(l, score+1)
	}
	return l
}

// ends are pairs of the least and of the greatest score.
var ends = pairs([]int64{least, least + 1, -1, 0, 1, greatest - 1, greatest}, "", "a", "\xff")

// wantPair holds what a list tells of a pair and its score against what the model tells.
func wantPair(t *testing.T, l calls, m *model, x api.Scored) {
	t.Helper()
	want(t, "Rank", l.Rank(x), m.Rank(x), x)
	want(t, "Ahead", l.Ahead(x), m.Ahead(x), x)
	for _, open := range []bool{false, true} {
		want(t, "Below", l.Below(x.Score, open), m.Below(x.Score, open), x.Score, open)
	}
}

// wantModel holds all that a list tells against what the model tells.
func wantModel(t *testing.T, l calls, m *model) {
	t.Helper()
	wantAll(t, l, m.l...)
	for _, x := range m.l {
		for _, y := range beside(x) {
			wantPair(t, l, m, y)
		}
	}
	for _, x := range ends {
		wantPair(t, l, m, x)
	}
	for _, rank := range ranks(min(m.Len(), 40)) {
		x, ok := m.At(rank)
		wantAt(t, l, rank, x, ok)
		wantCut(t, l, rank, math.MaxInt, m.Cut(rank, math.MaxInt)...)
		wantCut(t, l, math.MinInt, rank, m.Cut(math.MinInt, rank)...)
	}
}

// put puts a pair in all lists, each of which answers as the model.
func (g *together) put(t *testing.T, x api.Scored) {
	t.Helper()
	meant := g.model.Put(x)
	for _, l := range g.lists {
		want(t, "Put", l.Put(x), meant, x)
	}
}

// drop drops a pair from all lists, each of which answers as the model.
func (g *together) drop(t *testing.T, x api.Scored) {
	t.Helper()
	meant := g.model.Drop(x)
	for _, l := range g.lists {
		want(t, "Drop", l.Drop(x), meant, x)
	}
}

// wantAlike holds all lists against their model.
func (g *together) wantAlike(t *testing.T) {
	t.Helper()
	for _, l := range g.lists {
		wantModel(t, l, &g.model)
	}
}

// wantLittle looks at all lists at a few places, near some pair.
func (g *together) wantLittle(t *testing.T, x api.Scored) {
	t.Helper()
	rank := g.model.Ahead(x)
	for _, l := range g.lists {
		want(t, "Len", l.Len(), g.model.Len())
		wantPair(t, l, &g.model, x)
		for r := rank - 1; r <= rank+1; r++ {
			y, ok := g.model.At(r)
			wantAt(t, l, r, y, ok)
		}
		wantCut(t, l, rank-2, rank+2, g.model.Cut(rank-2, rank+2)...)
	}
}

func TestP10_1_NewIsEmpty(t *testing.T) {
	for _, seed := range append(seeds, 0) {
		l := skip.New(seed)
		if l == nil {
			t.Fatal("New: nil")
		}
		wantModel(t, l, &model{})
		want(t, "Drop", l.Drop(pair("", 0)), false)
		want(t, "Put", l.Put(pair("", 0)), true)
		wantModel(t, l, &model{[]api.Scored{pair("", 0)}})
		wantModel(t, skip.New(seed), &model{})
	}
}

func TestP10_1_ByHand(t *testing.T) {
	for _, seed := range append(seeds, 0) {
		l := skip.New(seed)
		for i, x := range []struct {
			put bool
			x   api.Scored
			ok  bool
			all []api.Scored
		}{
			{false, pair("a", 1), false, nil},
			{true, pair("b", 2), true, row("b:2")},
			{true, pair("b", 2), false, row("b:2")},
			{true, pair("a", 2), true, row("a:2 b:2")},
			{true, pair("b", 1), true, row("b:1 a:2 b:2")},
			{true, pair("c", 1), true, row("b:1 c:1 a:2 b:2")},
			{false, pair("c", 2), false, row("b:1 c:1 a:2 b:2")},
			{false, pair("a", 1), false, row("b:1 c:1 a:2 b:2")},
			{false, pair("", 1), false, row("b:1 c:1 a:2 b:2")},
			{false, pair("b", 3), false, row("b:1 c:1 a:2 b:2")},
			{true, pair("", -5), true, row(":-5 b:1 c:1 a:2 b:2")},
			{true, pair("", 1), true, row(":-5 :1 b:1 c:1 a:2 b:2")},
			{true, pair("c", 1), false, row(":-5 :1 b:1 c:1 a:2 b:2")},
			{false, pair("b", 1), true, row(":-5 :1 c:1 a:2 b:2")},
			{false, pair("b", 1), false, row(":-5 :1 c:1 a:2 b:2")},
			{false, pair("b", 2), true, row(":-5 :1 c:1 a:2")},
			{false, pair("", -5), true, row(":1 c:1 a:2")},
			{true, pair("b", 1), true, row(":1 b:1 c:1 a:2")},
			{false, pair("a", 2), true, row(":1 b:1 c:1")},
			{false, pair("", 1), true, row("b:1 c:1")},
			{false, pair("b", 1), true, row("c:1")},
			{false, pair("c", 1), true, nil},
			{false, pair("c", 1), false, nil},
			{true, pair("c", 1), true, row("c:1")},
		} {
			if x.put {
				want(t, "Put", l.Put(x.x), x.ok, i, x.x)
			} else {
				want(t, "Drop", l.Drop(x.x), x.ok, i, x.x)
			}
			wantModel(t, l, &model{x.all})
		}
	}
}

func TestP10_2_TheExample(t *testing.T) {
	for _, seed := range append(seeds, 0) {
		for _, l := range [][]api.Scored{row("b:1 a:2 c:1"), row("c:1 a:2 b:1"), row("a:2 b:1 c:1")} {
			list := filled(t, seed, l...)
			wantAll(t, list, pair("b", 1), pair("c", 1), pair("a", 2))
			want(t, "Below", list.Below(1, false), 0, 1, false)
			want(t, "Below", list.Below(1, true), 2, 1, true)
		}
	}
}

func TestP10_2_RankAndAheadByHand(t *testing.T) {
	for _, seed := range append(seeds, 0) {
		l := filled(t, seed, pair("b", 1), pair("a", 2), pair("c", 1), pair("", 2), pair("\x80", 1), pair("a", -3), pair("z", greatest), pair("z", least))
		for _, x := range []struct {
			x           api.Scored
			rank, ahead int
		}{
			{pair("", least), -1, 0},
			{pair("y\xff", least), -1, 0},
			{pair("z", least), 0, 0},
			{pair("z\x00", least), -1, 1},
			{pair("z", least+1), -1, 1},
			{pair("z", -4), -1, 1},
			{pair("", -3), -1, 1},
			{pair("a", -3), 1, 1},
			{pair("b", -3), -1, 2},
			{pair("a", -2), -1, 2},
			{pair("", 0), -1, 2},
			{pair("", 1), -1, 2},
			{pair("b", 1), 2, 2},
			{pair("ba", 1), -1, 3},
			{pair("c", 1), 3, 3},
			{pair("c\x00", 1), -1, 4},
			{pair("\x7f", 1), -1, 4},
			{pair("\x80", 1), 4, 4},
			{pair("\x81", 1), -1, 5},
			{pair("\xff", 1), -1, 5},
			{pair("", 2), 5, 5},
			{pair("\x00", 2), -1, 6},
			{pair("A", 2), -1, 6},
			{pair("a", 2), 6, 6},
			{pair("aa", 2), -1, 7},
			{pair("a", 3), -1, 7},
			{pair("z", greatest-1), -1, 7},
			{pair("", greatest), -1, 7},
			{pair("z", greatest), 7, 7},
			{pair("zz", greatest), -1, 8},
		} {
			want(t, "Rank", l.Rank(x.x), x.rank, x.x)
			want(t, "Ahead", l.Ahead(x.x), x.ahead, x.x)
		}
	}
}

func TestP10_2_BelowByHand(t *testing.T) {
	for _, seed := range append(seeds, 0) {
		l := filled(t, seed, pair("b", 1), pair("a", 3), pair("c", 1), pair("", 3), pair("d", 1), pair("a", -3), pair("z", greatest), pair("y", greatest), pair("z", least), pair("", least), pair("", 0))
		for _, x := range []struct {
			score     int64
			shut, all int
		}{
			{least, 0, 2},
			{least + 1, 2, 2},
			{-4, 2, 2},
			{-3, 2, 3},
			{-2, 3, 3},
			{-1, 3, 3},
			{0, 3, 4},
			{1, 4, 7},
			{2, 7, 7},
			{3, 7, 9},
			{4, 9, 9},
			{greatest - 1, 9, 9},
			{greatest, 9, 11},
		} {
			want(t, "Below", l.Below(x.score, false), x.shut, x.score, false)
			want(t, "Below", l.Below(x.score, true), x.all, x.score, true)
		}
	}
}

// Where no pair has the least, or the greatest, score, none is below the one, all are below the other.
func TestP10_2_BelowBeyondAllScores(t *testing.T) {
	for _, seed := range seeds {
		l := filled(t, seed, pairs([]int64{least + 1, 5, greatest - 1}, "a", "b")...)
		for _, open := range []bool{false, true} {
			want(t, "Below the least", l.Below(least, open), 0)
			want(t, "Below the greatest", l.Below(greatest, open), 6)
		}
	}
}

func TestP10_2_AtByHand(t *testing.T) {
	for _, seed := range append(seeds, 0) {
		l := filled(t, seed, pair("b", 1), pair("a", 2), pair("c", 1))
		wantAt(t, l, 0, pair("b", 1), true)
		wantAt(t, l, 1, pair("c", 1), true)
		wantAt(t, l, 2, pair("a", 2), true)
		for _, rank := range append([]int{-4, -3, -2, -1, 3, 4, 5}, extremes...) {
			wantAt(t, l, rank, api.Scored{}, false)
		}
	}
}

func TestP10_3_ByHand(t *testing.T) {
	abc := row("b:1 c:1 a:2")
	for _, seed := range append(seeds, 0) {
		l := filled(t, seed, pair("a", 2), pair("b", 1), pair("c", 1))
		for _, x := range []struct {
			from, to int
			want     []api.Scored
		}{
			{0, 0, abc[:1]},
			{0, 1, abc[:2]},
			{0, 2, abc},
			{0, 3, abc},
			{0, math.MaxInt, abc},
			{0, -1, nil},
			{0, -2, nil},
			{0, math.MinInt, nil},
			{1, 1, abc[1:2]},
			{1, 2, abc[1:]},
			{1, 9, abc[1:]},
			{1, 0, nil},
			{1, -1, nil},
			{2, 2, abc[2:]},
			{2, math.MaxInt, abc[2:]},
			{2, 1, nil},
			{2, -1, nil},
			{3, 3, nil},
			{3, 2, nil},
			{3, math.MaxInt, nil},
			{math.MaxInt, math.MaxInt, nil},
			{math.MaxInt, 2, nil},
			{math.MaxInt, -1, nil},
			{math.MaxInt, math.MinInt, nil},
			{-1, -1, nil},
			{-1, 0, abc[:1]},
			{-1, 1, abc[:2]},
			{-3, -1, nil},
			{-3, 2, abc},
			{-1, -3, nil},
			{math.MinInt, math.MaxInt, abc},
			{math.MinInt, 0, abc[:1]},
			{math.MinInt, -1, nil},
			{math.MinInt, math.MinInt, nil},
			{math.MinInt, 1, abc[:2]},
		} {
			wantCut(t, l, x.from, x.to, x.want...)
		}
	}
}

func TestP10_3_CutFromAllRanksToAll(t *testing.T) {
	for n := range 14 {
		for _, seed := range seeds {
			l, m := skip.New(seed), &model{}
			for i := range n {
				l.Put(pair(nth(i), int64(i*7%5)))
				m.Put(pair(nth(i), int64(i*7%5)))
			}
			for _, from := range ranks(n) {
				for _, to := range ranks(n) {
					wantCut(t, l, from, to, m.Cut(from, to)...)
				}
			}
		}
	}
}

// What was told stays as it is, whatever befalls the list; and the list stays as it is, whatever befalls what was told.
func TestP10_3_WhatWasToldStays(t *testing.T) {
	for n := range 40 {
		g := made(seeds...)
		for i := range n {
			g.put(t, pair(nth(i), int64(i*7%11)))
		}
		before := slices.Clone(g.l)
		var cuts [][]api.Scored
		for _, l := range g.lists {
			all, again := l.Cut(0, n-1), l.Cut(0, n)
			for i := range again {
				again[i] = pair("spoilt", -77)
			}
			_ = append(again[:len(again)/2], again...)
			wantPairs(t, "all", all, before...)
			cuts = append(cuts, all, l.Cut(0, n/2), l.Cut(n/2+1, n))
		}
		g.wantAlike(t)
		for _, x := range before {
			g.drop(t, x)
			g.put(t, pair(x.Member+"\x00", x.Score-1))
			g.put(t, pair(x.Member, x.Score+1))
		}
		for i := range g.lists {
			wantPairs(t, "all", cuts[3*i], before...)
			wantPairs(t, "ahead and behind", append(cuts[3*i+1], cuts[3*i+2]...), before...)
		}
	}
}

// A nil list has nothing, and takes nothing.
func TestP10_3_ANilList(t *testing.T) {
	var l *skip.List
	for range 2 {
		want(t, "Len", l.Len(), 0)
		for _, x := range append(ends, pairs([]int64{0, 1}, odd...)...) {
			want(t, "Put", l.Put(x), false)
			want(t, "Drop", l.Drop(x), false)
			want(t, "Rank", l.Rank(x), -1)
			want(t, "Ahead", l.Ahead(x), 0)
			want(t, "Below", l.Below(x.Score, false), 0)
			want(t, "Below", l.Below(x.Score, true), 0)
		}
		for _, from := range ranks(2) {
			wantAt(t, l, from, api.Scored{}, false)
			for _, to := range ranks(2) {
				wantCut(t, l, from, to)
			}
		}
	}
	if l != nil {
		t.Error("it is nil no more")
	}
}

// The zero list is an empty one, into which pairs come.
func TestP10_3_TheZeroList(t *testing.T) {
	first := []func(l *skip.List){
		func(l *skip.List) {},
		func(l *skip.List) { want(t, "Len", l.Len(), 0) },
		func(l *skip.List) { want(t, "Drop", l.Drop(pair("", 0)), false) },
		func(l *skip.List) { want(t, "Rank", l.Rank(pair("", 0)), -1) },
		func(l *skip.List) { want(t, "Ahead", l.Ahead(pair("a", greatest)), 0) },
		func(l *skip.List) { want(t, "Below", l.Below(greatest, true), 0) },
		func(l *skip.List) { wantAt(t, l, 0, api.Scored{}, false) },
		func(l *skip.List) { wantCut(t, l, 0, 0) },
		func(l *skip.List) { wantModel(t, l, &model{}) },
	}
	for _, do := range first {
		var l skip.List
		do(&l)
		m := &model{}
		for i := range 100 {
			x := pair(nth(i*7%60), int64(i%3))
			want(t, "Put", l.Put(x), m.Put(x))
		}
		wantModel(t, &l, m)
		for i := range 60 {
			x := pair(nth(i), int64(i%3))
			want(t, "Drop", l.Drop(x), m.Drop(x))
		}
		wantModel(t, &l, m)
	}
}

func TestP10_1_APairIsThereOnce(t *testing.T) {
	all := append(pairs([]int64{least, -1, 0, 1, greatest}, odd...), pairs([]int64{7}, tall...)...)
	for _, seed := range append(seeds, 0) {
		l := skip.New(seed)
		for i, x := range all {
			want(t, "Drop", l.Drop(x), false, x)
			want(t, "Put", l.Put(x), true, x)
			want(t, "Put again", l.Put(x), false, x)
			want(t, "Len", l.Len(), i+1)
		}
		for _, x := range all {
			want(t, "Put again", l.Put(x), false, x)
		}
		wantAll(t, l, slices.SortedFunc(slices.Values(all), order)...)
		for i, x := range all {
			want(t, "Drop", l.Drop(x), true, x)
			want(t, "Drop again", l.Drop(x), false, x)
			want(t, "Len", l.Len(), len(all)-i-1)
		}
		wantModel(t, l, &model{})
	}
}

// Of one score pairs stand by their members, byte by byte.
func TestP10_4_MembersOfOneScore(t *testing.T) {
	for _, score := range []int64{least, -1, 0, 5, greatest} {
		rising := pairs([]int64{score}, odd...)
		for i, l := range [][]api.Scored{rising, turned(rising), mixed(1, rising), mixed(2, rising), mixed(3, rising)} {
			for _, seed := range append(seeds, 0) {
				list := filled(t, seed, l...)
				wantModel(t, list, &model{rising})
				for n, x := range mixed(uint64(i), rising) {
					want(t, "Drop", list.Drop(x), true)
					want(t, "Len", list.Len(), len(rising)-n-1)
					want(t, "Rank", list.Rank(x), -1)
				}
			}
		}
	}
}

// Pairs of one member stand by their scores.
func TestP10_4_ScoresOfOneMember(t *testing.T) {
	scores := []int64{least, least + 1, -1 << 32, -256, -10, -9, -1, 0, 1, 2, 9, 10, 255, 1 << 31, 1 << 32, greatest - 1, greatest}
	for _, member := range []string{"", "a", "\xff", tall[0], tall[7]} {
		rising := pairs(scores, member)
		for i, l := range [][]api.Scored{rising, turned(rising), mixed(1, rising), mixed(2, rising), mixed(3, rising)} {
			for _, seed := range append(seeds, 0) {
				list := filled(t, seed, l...)
				wantModel(t, list, &model{rising})
				m := &model{slices.Clone(rising)}
				for _, x := range mixed(uint64(i), rising) {
					want(t, "Drop", list.Drop(x), m.Drop(x))
					wantModel(t, list, m)
				}
			}
		}
	}
}

// Two pairs of one member: one of them goes, the other one stays.
func TestP10_1_OneOfTwoPairsOfAMember(t *testing.T) {
	for _, member := range append(tall, odd...) {
		for _, seed := range append(seeds, 0) {
			for _, scores := range [][2]int64{{0, 1}, {1, 0}, {least, greatest}, {greatest, least}, {-1, 1}, {greatest, 0}} {
				goes, stays := pair(member, scores[0]), pair(member, scores[1])
				l := filled(t, seed, goes, stays)
				want(t, "Drop", l.Drop(goes), true)
				wantAll(t, l, stays)
				want(t, "Rank", l.Rank(goes), -1)
				want(t, "Drop again", l.Drop(goes), false)
				want(t, "Put of the other one", l.Put(stays), false)
				wantAll(t, l, stays)
			}
		}
	}
}

// The pairs of the least and the greatest score, with all between, come and go.
func TestP10_2_AtTheEndsOfTheScores(t *testing.T) {
	for i := range uint64(6) {
		g := made(seeds...)
		for _, x := range mixed(i, ends) {
			g.put(t, x)
			g.wantAlike(t)
		}
		for _, x := range mixed(i+10, ends) {
			g.drop(t, x)
			g.wantAlike(t)
		}
	}
}

// Whatever short sequence of calls is made, from nothing on, each answer is the one that is meant.
func TestP10_3_AllShortSequences(t *testing.T) {
	few := row("a:1 b:0 b:1 c:1")
	const long = 5
	all := 1
	for range long {
		all *= 2 * len(few)
	}
	for sequence := range all {
		g := made(seeds[6])
		for range long {
			x := few[sequence/2%len(few)]
			if sequence%2 == 0 {
				g.put(t, x)
			} else {
				g.drop(t, x)
			}
			sequence /= 2 * len(few)
			for _, l := range g.lists {
				wantAll(t, l, g.l...)
			}
		}
		for _, l := range g.lists {
			for _, x := range few {
				wantPair(t, l, &g.model, x)
			}
		}
	}
}

// many are n pairs, rising, in which scores and members come more than once.
func many(n int) []api.Scored {
	var l []api.Scored
	for i := range n {
		l = append(l, pair(nth(i*31%(n/2+1)), int64(i/5-n/13)))
	}
	slices.SortFunc(l, order)
	return slices.Compact(l)
}

// orders are some orders of things.
func orders(l []api.Scored) map[string][]api.Scored {
	return map[string][]api.Scored{
		"rising":  l,
		"falling": turned(l),
		"mixed":   mixed(1, l),
		"other":   mixed(2, l),
		"halves":  append(slices.Clone(l[len(l)/2:]), l[:len(l)/2]...),
	}
}

func TestP10_4_ManyInManyOrders(t *testing.T) {
	l := many(80)
	for came, puts := range orders(l) {
		for went, drops := range orders(l) {
			t.Run(came+" "+went, func(t *testing.T) {
				g := made(seeds...)
				for i, x := range puts {
					g.put(t, x)
					g.wantLittle(t, x)
					g.wantLittle(t, l[i])
				}
				g.wantAlike(t)
				for i, x := range drops {
					if i == len(drops)/2 || i == len(drops)-3 {
						g.wantAlike(t)
					}
					g.drop(t, x)
					g.wantLittle(t, x)
					g.wantLittle(t, l[i])
				}
				g.wantAlike(t)
			})
		}
	}
}

func TestP10_4_ManySeeds(t *testing.T) {
	l := many(60)
	for seed := range uint64(300) {
		g := made(seed, seed<<32, ^seed, seedOf("k"+strconv.Itoa(int(seed%30)), math.MaxUint64>>(seed%40)))
		for _, x := range mixed(seed, l) {
			g.put(t, x)
		}
		g.wantAlike(t)
		for _, x := range mixed(seed+1, l)[:len(l)/2] {
			g.drop(t, x)
		}
		g.wantAlike(t)
	}
}

// Very many pairs, against a sorted list.
func TestP10_4_VeryMany(t *testing.T) {
	const n = 30000
	var sorted []api.Scored
	for i := range n {
		sorted = append(sorted, pair(nth(i), int64(i%700-350)))
	}
	slices.SortFunc(sorted, order)
	for came, puts := range orders(sorted) {
		list := filled(t, 5, puts...)
		wantAll(t, list, sorted...)
		odds := func(x api.Scored) bool { return x.Member[len(x.Member)-1]%2 == 1 }
		for _, x := range mixed(4, sorted) {
			if odds(x) {
				want(t, came, list.Drop(x), true)
			}
		}
		left := slices.DeleteFunc(slices.Clone(sorted), odds)
		wantAll(t, list, left...)
		for i, x := range sorted {
			if odds(x) {
				at, _ := slices.BinarySearchFunc(left, x, order)
				want(t, "Rank", list.Rank(x), -1)
				want(t, "Ahead", list.Ahead(x), at)
			}
			if i%100 == 0 {
				want(t, "Below", list.Below(x.Score, false), slices.IndexFunc(left, func(y api.Scored) bool { return y.Score >= x.Score }))
				wantCut(t, list, i/2, i/2+9, left[min(i/2, len(left)):min(i/2+10, len(left))]...)
			}
		}
	}
}

// Now more come, now more go; what is asked for is there, or just not.
func TestP10_4_RolledCalls(t *testing.T) {
	for seed := range uint64(10) {
		next := rolled(seed)
		g := made(seed, seeds[seed%9])
		coming := 4
		for range 800 {
			if next(50) == 0 {
				coming = next(6)
			}
			x := pair(nth(next(30)), int64(next(7)-3))
			switch next(12) {
			case 0:
				x.Member = odd[next(len(odd))]
			case 1:
				x.Score = []int64{least, greatest}[next(2)]
			case 2:
				x.Member = tall[next(len(tall))]
			}
			if next(6) < coming {
				g.put(t, x)
			} else {
				g.drop(t, x)
			}
			g.wantLittle(t, x)
			if next(100) == 0 {
				g.wantAlike(t)
			}
		}
		g.wantAlike(t)
	}
}

// Pairs that stand in many levels come among others, in each order, and go, each at each rank.
func TestP10_1_PairsInManyLevels(t *testing.T) {
	for _, n := range []int{0, 1, 2, 5, 11} {
		for i, member := range tall {
			for _, score := range []int64{-1, 3, 5, 99} {
				g := made(0, seedOf(member, math.MaxUint64), seedOf(member, 1<<30-1), seedOf(member, 1<<12-1))
				x := pair(member, score)
				for k := range n {
					g.put(t, pair(nth(k), int64(k)))
				}
				g.put(t, x)
				g.wantAlike(t)
				g.put(t, pair(tall[(i+1)%len(tall)], 4))
				g.wantAlike(t)
				g.drop(t, x)
				g.wantAlike(t)
				g.drop(t, x)
				g.put(t, x)
				for k := range n {
					g.drop(t, pair(nth(k), int64(k)))
				}
				g.wantAlike(t)
			}
		}
	}
}

// Pairs that all stand in many levels, side by side and among others, come and go in mixed orders.
func TestP10_1_ManyPairsInManyLevels(t *testing.T) {
	l := append(pairs([]int64{0, 20, 40}, tall...), many(50)...)
	for i := range uint64(8) {
		g := made(0)
		for _, x := range mixed(i, l) {
			g.put(t, x)
			g.wantLittle(t, x)
		}
		g.wantAlike(t)
		for _, x := range mixed(i, pairs([]int64{0, 20, 40}, tall...)) {
			g.drop(t, x)
			g.wantAlike(t)
		}
	}
}

// A list from which all went is as a new one.
func TestP10_1_EmptiedAndFilledAgain(t *testing.T) {
	g := made(append(seeds, 0)...)
	for n := range 30 {
		l := append(many(n+1), pairs([]int64{int64(n)}, tall...)...)
		for _, x := range mixed(uint64(n), l) {
			g.put(t, x)
		}
		g.wantAlike(t)
		for _, x := range mixed(uint64(n+1), l) {
			g.drop(t, x)
		}
		want(t, "Len", g.Len(), 0)
		g.wantAlike(t)
		g.drop(t, l[0])
		g.put(t, l[0])
		g.wantAlike(t)
		g.drop(t, l[0])
	}
}

// What tells something turns nothing, nor does what is refused.
func TestP10_2_NothingElseIsTurned(t *testing.T) {
	for n := range 30 {
		g := made(append(seeds, 0)...)
		for _, x := range many(n) {
			g.put(t, x)
		}
		for _, l := range g.lists {
			for _, x := range append(many(n), ends...) {
				if g.Rank(x) < 0 {
					l.Drop(x)
				} else {
					l.Put(x)
				}
				l.Rank(x)
				l.Ahead(x)
				l.Below(x.Score, true)
				l.Below(x.Score, false)
			}
			for _, rank := range ranks(n) {
				l.At(rank)
				l.Cut(rank, n)
				l.Cut(0, rank)
			}
		}
		g.wantAlike(t)
	}
}

// Lists of their own turn nothing in one another.
func TestP10_1_TwoLists(t *testing.T) {
	a, b := filled(t, 0, many(40)...), filled(t, 0, many(30)...)
	for _, x := range many(40) {
		a.Drop(x)
	}
	wantModel(t, a, &model{})
	wantModel(t, b, &model{many(30)})
	wantModel(t, skip.New(0), &model{})
}

// Rank and place undo one another; each pair is there once, in its order.
func TestP10_4_RankAndPlaceUndoOneAnother(t *testing.T) {
	for _, seed := range append(seeds, 0) {
		l := filled(t, seed, mixed(seed, many(500))...)
		ahead, _ := l.At(0)
		for rank := range l.Len() {
			x, ok := l.At(rank)
			want(t, "At", ok, true, rank)
			want(t, "Rank", l.Rank(x), rank, x)
			if rank > 0 && order(ahead, x) >= 0 {
				t.Fatalf("%s is ahead of %s", told(ahead), told(x))
			}
			ahead = x
		}
		for _, x := range many(500) {
			wantAt(t, l, l.Rank(x), x, true)
		}
	}
}

// Lists of the same pairs tell the same, in whatever order these came, whatever came with them and went, whatever the seed is.
func TestP10_5_NeitherOrderNorSeed(t *testing.T) {
	l := append(many(70), pairs([]int64{-2, 3}, append(tall, odd...)...)...)
	slices.SortFunc(l, order)
	l = slices.Compact(l)
	meant := &model{l}
	guests := pairs([]int64{-3, 2, 4}, "guest", "k", tall[0]+"x")
	for seed := range uint64(40) {
		one := skip.New(seed)
		for _, x := range mixed(seed, append(slices.Clone(l), guests...)) {
			one.Put(x)
			if seed%3 == 0 {
				one.Drop(x)
				one.Put(x)
			}
		}
		for _, x := range mixed(seed+1, guests) {
			want(t, "Drop", one.Drop(x), true)
		}
		wantModel(t, one, meant)
	}
	for _, seed := range seeds {
		for _, puts := range orders(l) {
			wantModel(t, filled(t, seed, puts...), meant)
		}
	}
}
