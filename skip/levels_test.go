package skip

import (
	"math"
	"slices"
	"strconv"
	"testing"

	"mews/api"
	"mews/hash"
)

// heightOf is in how many levels pairs of a member stand, in the chapter's words: pair of bits by pair of bits.
func heightOf(seed uint64, member string) int {
	n := hash.Of(seed, member)
	height := 1
	for i := 0; i < 64 && n>>i&3 == 3; i += 2 {
		height++
	}
	return min(height, 16)
}

// row are the pairs along a level, with the rank that its links tell of each; what the last one tells is how many are behind.
func (l *List) row(t *testing.T, level int) (pairs []api.Scored, ranks []int) {
	t.Helper()
	rank := -1
	onward := l.first[level]
	for onward.next != nil {
		rank += onward.on
		pairs = append(pairs, onward.next.pair)
		ranks = append(ranks, rank)
		onward = onward.next.links[level]
	}
	if rank+onward.on != l.count-1 {
		t.Fatalf("level %d: behind rank %d are %d of %d pairs", level, rank, onward.on, l.count)
	}
	return pairs, ranks
}

// wantLevels looks at all levels: each has those of the first one that stand in it, and knows their ranks.
func wantLevels(t *testing.T, l *List) {
	t.Helper()
	all, _ := l.row(t, 0)
	if len(all) != l.count {
		t.Fatalf("level 0 has %d of %d pairs", len(all), l.count)
	}
	for level := range len(l.first) {
		var meant []api.Scored
		var at []int
		for rank, x := range all {
			if heightOf(l.seed, x.Member) > level {
				meant = append(meant, x)
				at = append(at, rank)
			}
		}
		pairs, ranks := l.row(t, level)
		if !slices.Equal(pairs, meant) || !slices.Equal(ranks, at) {
			t.Fatalf("level %d has %v at %v; want %v at %v", level, pairs, ranks, meant, at)
		}
	}
}

// seedFor is the seed by which the empty member has a number: what makes the number of the seed is undone.
func seedFor(number uint64) uint64 {
	h := number ^ number>>33
	for _, factor := range []uint64{14181476777654086739, 18397679294719823053} {
		undone := factor
		for range 6 {
			undone *= 2 - factor*undone
		}
		h *= undone
		h ^= h >> 33
	}
	return h ^ 14695981039346656037
}

func TestP10_1_AsManyLevelsAsTheNumberTells(t *testing.T) {
	for pairs := range 33 {
		for bits := range uint64(3) { // 00, 01 or 10 ends what is 11; all behind that is 11 again
			number := math.MaxUint64&^(3<<(2*pairs)) | bits<<(2*pairs)
			seed := seedFor(number)
			if hash.Of(seed, "") != number {
				t.Fatalf("the seed for %d is not %d", number, seed)
			}
			l := New(seed)
			l.Put(api.Scored{Score: 5})
			if n := len(l.first[0].next.links); n != min(pairs+1, 16) {
				t.Errorf("%d pairs 11: %d levels", pairs, n)
			}
			wantLevels(t, l)
		}
	}
}

// Pairs of many heights come and go: all levels know the next one, and how many ranks on that is, behind each call.
func TestP10_1_LevelsBehindEachCall(t *testing.T) {
	for seed := range uint64(6) {
		l := New(seed)
		if seed == 0 {
			l = new(List)
		}
		wantLevels(t, l)
		for i := range 500 {
			x := api.Scored{Member: strconv.Itoa(i * 7 % 311), Score: int64(i % 5)}
			l.Put(x)
			if i%3 == 0 {
				l.Drop(api.Scored{Member: strconv.Itoa(i * 7 % 293), Score: int64(i % 5)})
			}
			if i%11 == 0 {
				l.Put(api.Scored{Member: []string{"m1wvol", "muyruu", "m56yr7", "mjdb3tb", "m16fdh60"}[i/11%5], Score: int64(i % 7)})
			}
			if i%13 == 0 {
				l.Drop(api.Scored{Member: []string{"m1wvol", "muyruu", "m56yr7", "mjdb3tb", "m16fdh60"}[i/13%5], Score: int64(i % 7)})
			}
			wantLevels(t, l)
		}
		for l.Len() > 0 {
			x, _ := l.At(l.Len() * 5 / 7)
			l.Drop(x)
			wantLevels(t, l)
		}
		if l.first != ([levels]link{}) {
			t.Fatal("something is left of a list from which all went")
		}
	}
}

// All takes few steps.
func TestP10_2_FewSteps(t *testing.T) {
	const n = 1 << 16
	for seed := range uint64(3) {
		l := New(seed)
		for i := range n {
			l.Put(api.Scored{Member: strconv.Itoa(i), Score: int64(i * 31 % n)})
		}
		all := 0
		for rank := range n {
			steps := 0
			p := l.down(func(_ api.Scored, r int) bool {
				steps++
				return r < rank
			})
			if p[0].past != rank {
				t.Fatalf("at %d, not at %d", p[0].past, rank)
			}
			if steps > 150 {
				t.Fatalf("to the rank %d of %d: %d steps", rank, n, steps)
			}
			all += steps
		}
		if all/n > 50 {
			t.Errorf("%d steps to a rank, of %d", all/n, n)
		}
	}
}
