package deque_test

import (
	"fmt"
	"math"
	"slices"
	"strconv"
	"strings"
	"testing"

	"mews/deque"
)

// most is how long a list may be: the chapter's 2^20.
const most = 1048576

// upTo are the numbers from 0 on, so many.
func upTo(n int) []int {
	l := make([]int, n)
	for i := range l {
		l[i] = i
	}
	return l
}

// extremes are places that no list has.
var extremes = []int{math.MinInt, math.MinInt + 1, math.MinInt + 7, math.MinInt32, -most - 2, most + 1, math.MaxInt32, 1 << 32, math.MaxInt - 7, math.MaxInt - 1, math.MaxInt}

// places are all that a list of n things has, told from either end, and some beyond both.
func places(n int) []int {
	var l []int
	for i := -2*n - 3; i <= 2*n+3; i++ {
		l = append(l, i)
	}
	return append(l, extremes...)
}

// ways are all the same list, of the numbers from 0 on, but each came about in its own way, so that they lie in their rooms otherwise.
func ways(n int) []func() *deque.List[int] {
	l := []func() *deque.List[int]{
		func() *deque.List[int] { return deque.New(upTo(n)...) },
		func() *deque.List[int] { // there were more, on both sides
			d := deque.New(slices.Concat(make([]int, 50), upTo(n), make([]int, 60))...)
			d.Keep(50, 50+n-1)
			return d
		},
		func() *deque.List[int] { // each came between two
			d := deque.New[int]()
			for i := range n {
				if i%2 == 0 {
					d.Insert(i/2, i/2)
				} else {
					d.Insert(i/2+1, n-1-i/2)
				}
			}
			return d
		},
	}
	for _, gone := range []int{0, 1, 3, 5, 7, 8, 9, 31} {
		for _, front := range []bool{false, true} {
			for split := range n + 1 {
				l = append(l, func() *deque.List[int] { return pushed(n, split, gone, front) })
			}
		}
	}
	return l
}

// pushed is a list from which some were popped at an end, as they were pushed at the other one, and into which those ahead of split came from the front, the others from the back.
func pushed(n, split, gone int, front bool) *deque.List[int] {
	d := new(deque.List[int])
	d.Push(front, -1)
	for range gone {
		d.Push(front, -1)
		d.Pop(!front)
	}
	d.Pop(front)
	for i := split - 1; i >= 0; i-- {
		d.Push(true, i)
	}
	for i := split; i < n; i++ {
		d.Push(false, i)
	}
	return d
}

// eachList hands on a list of so many numbers in each of its ways.
func eachList(t *testing.T, n int, do func(*deque.List[int])) {
	t.Helper()
	for _, way := range ways(n) {
		d := way()
		wantAll(t, d, upTo(n)...)
		do(d)
	}
}

// short is a list's beginning.
func short[V any](l []V) string {
	s := fmt.Sprintf("%d: %v", len(l), l[:min(len(l), 30)])
	return s[:min(len(s), 300)]
}

func wantList[V comparable](t *testing.T, what string, l []V, want ...V) {
	t.Helper()
	if !slices.Equal(l, want) {
		t.Fatalf("%s: %s; want %s", what, short(l), short(want))
	}
}

// wantAll holds all that a list tells without an argument against its things.
func wantAll[V comparable](t *testing.T, d calls[V], want ...V) {
	t.Helper()
	wantList(t, "All", d.All(), want...)
	if n := d.Len(); n != len(want) {
		t.Fatalf("Len: %d; want %d", n, len(want))
	}
}

func wantBool(t *testing.T, what string, ok, want bool) {
	t.Helper()
	if ok != want {
		t.Fatalf("%s: %v; want %v", what, ok, want)
	}
}

func wantOne[V comparable](t *testing.T, what string, v V, ok bool, want V, wantOK bool) {
	t.Helper()
	if v != want || ok != wantOK {
		t.Fatalf("%s: %v, %v; want %v, %v", what, v, ok, want, wantOK)
	}
}

func wantPop[V comparable](t *testing.T, d calls[V], front bool, want V, wantOK bool) {
	t.Helper()
	v, ok := d.Pop(front)
	wantOne(t, fmt.Sprintf("Pop(%v)", front), v, ok, want, wantOK)
}

func wantAt[V comparable](t *testing.T, d calls[V], i int, want V, wantOK bool) {
	t.Helper()
	v, ok := d.At(i)
	wantOne(t, fmt.Sprintf("At(%d)", i), v, ok, want, wantOK)
}

func TestP9_1_New(t *testing.T) {
	wantAll(t, deque.New[int]())
	wantAll(t, deque.New([]int{}...))
	wantAll(t, deque.New([]int(nil)...))
	wantAll(t, deque.New(1, 2, 3), 1, 2, 3)
	wantAll(t, deque.New("b", "", "a", "b"), "b", "", "a", "b")
	for n := range 70 {
		wantAll(t, deque.New(upTo(n)...), upTo(n)...)
	}
}

// Of more things than a list may have the first ones are taken.
func TestP9_1_NewOfVeryMany(t *testing.T) {
	for _, n := range []int{most - 1, most, most + 1, most + 2, 2*most + 3} {
		d := deque.New(upTo(n)...)
		wantAll(t, d, upTo(min(n, most))...)
		wantAt(t, d, -1, min(n, most)-1, true)
		wantAt(t, d, most, 0, false)
		wantBool(t, "Push", d.Push(false, -7), n < most)
	}
	if deque.MaxLong != most {
		t.Errorf("MaxLong is %d", deque.MaxLong)
	}
}

func TestP9_1_PushAndPopByHand(t *testing.T) {
	d := deque.New[string]()
	for _, x := range []struct {
		push, front bool
		v           string
		ok          bool
		all         string
	}{
		{false, true, "", false, ""},
		{false, false, "", false, ""},
		{true, false, "b", true, "b"},
		{true, false, "c", true, "b c"},
		{true, true, "a", true, "a b c"},
		{true, true, "", true, " a b c"},
		{false, false, "c", true, " a b"},
		{false, true, "", true, "a b"},
		{false, true, "a", true, "b"},
		{false, true, "b", true, ""},
		{false, true, "", false, ""},
		{true, true, "x", true, "x"},
		{false, false, "x", true, ""},
		{false, false, "", false, ""},
		{true, false, "y", true, "y"},
		{false, true, "y", true, ""},
	} {
		if x.push {
			wantBool(t, "Push of "+x.v, d.Push(x.front, x.v), x.ok)
		} else {
			wantPop(t, d, x.front, x.v, x.ok)
		}
		if all := strings.Join(d.All(), " "); all != x.all {
			t.Fatalf("All: %q; want %q", all, x.all)
		}
	}
}

func TestP9_1_APushAndAPopInEachWay(t *testing.T) {
	for n := range 20 {
		for _, front := range []bool{true, false} {
			eachList(t, n, func(d *deque.List[int]) {
				wantBool(t, "Push", d.Push(front, -5), true)
				if front {
					wantAll(t, d, append([]int{-5}, upTo(n)...)...)
				} else {
					wantAll(t, d, append(upTo(n), -5)...)
				}
			})
			eachList(t, n, func(d *deque.List[int]) {
				switch {
				case n == 0:
					wantPop(t, d, front, 0, false)
					wantAll(t, d)
				case front:
					wantPop(t, d, front, 0, true)
					wantAll(t, d, upTo(n)[1:]...)
				default:
					wantPop(t, d, front, n-1, true)
					wantAll(t, d, upTo(n-1)...)
				}
			})
		}
	}
}

// Pops from both ends till nothing is left; then pushes at both ends, of ever more.
func TestP9_1_TillNothingIsLeftAndOnAgain(t *testing.T) {
	d, m := deque.New[int](), newModel[int]()
	for n := range 200 {
		for i := range n {
			front := (i+n)%3 == 0
			wantBool(t, "Push", d.Push(front, i), true)
			m.Push(front, i)
		}
		wantAll(t, d, m.l...)
		for i := range n + 3 {
			front := (i/2+n)%2 == 0
			v, ok := m.Pop(front)
			wantPop(t, d, front, v, ok)
			wantBool(t, "more", ok, i < n)
		}
		wantAll(t, d)
	}
}

// What is pushed at one end and popped at the other goes round in the list's room, many times.
func TestP9_1_GoingRound(t *testing.T) {
	for _, n := range []int{0, 1, 2, 7, 8, 9, 100} {
		for _, front := range []bool{true, false} {
			d := deque.New(upTo(n)...)
			if front {
				d = deque.New(turned(upTo(n))...)
			}
			for i := range 1000 {
				wantBool(t, "Push", d.Push(front, n+i), true)
				wantPop(t, d, !front, i, true)
				if n > 0 {
					wantAt(t, d, 0, [2]int{i + 1, n + i}[index(front)], true)
					wantAt(t, d, -1, [2]int{n + i, i + 1}[index(front)], true)
				}
				if got := d.Len(); got != n {
					t.Fatalf("Len: %d; want %d", got, n)
				}
			}
		}
	}
}

// index is 1 of true.
func index(b bool) int {
	if b {
		return 1
	}
	return 0
}

// filled hands on lists that are full, each filled otherwise, with what they have.
func filled(do func(d *deque.List[int], all []int)) {
	do(deque.New(upTo(most)...), upTo(most))
	d := deque.New[int]()
	for i := range most {
		d.Push(false, i)
	}
	do(d, upTo(most))
	d = new(deque.List[int])
	for i := range most {
		d.Push(true, i)
	}
	do(d, turned(upTo(most)))
	d = deque.New[int]()
	for i := range most / 2 {
		d.Insert(0, most/2-1-i)
		d.Insert(2*i+1, most/2+i)
	}
	do(d, upTo(most))
	d = deque.New(upTo(most)...)
	for i := range most / 3 {
		d.Pop(true)
		d.Push(false, i)
	}
	do(d, append(upTo(most)[most/3:], upTo(most/3)...))
}

func TestP9_1_AFullListTakesNothing(t *testing.T) {
	filled(func(d *deque.List[int], all []int) {
		wantAll(t, d, all...)
		for range 2 {
			wantBool(t, "Push(true)", d.Push(true, -7), false)
			wantBool(t, "Push(false)", d.Push(false, -7), false)
		}
		wantAll(t, d, all...)
		for _, front := range []bool{true, false} {
			for _, back := range []bool{true, false} {
				v, ok := d.Pop(front)
				if front {
					wantOne(t, "Pop", v, ok, all[0], true)
				} else {
					wantOne(t, "Pop", v, ok, all[most-1], true)
				}
				wantBool(t, "Push", d.Push(back, -8), true)
				wantBool(t, "Push again", d.Push(back, -9), false)
				wantPop(t, d, back, -8, true)
				wantBool(t, "Push", d.Push(front, v), true)
				wantBool(t, "Push again", d.Push(front, v), false)
			}
		}
		wantAll(t, d, all...)
	})
}

func TestP9_2_AFullListTakesNoInsert(t *testing.T) {
	filled(func(d *deque.List[int], all []int) {
		for _, i := range append([]int{0, 1, most / 2, most - 1, most, most + 1, -1, -most}, extremes...) {
			wantBool(t, "Insert", d.Insert(i, -7), false)
		}
		wantAll(t, d, all...)
		for _, i := range []int{0, 1, most / 3, most - 2, most - 1} {
			wantBool(t, "Set", d.Set(i, -3), true)
			wantAt(t, d, i-most, -3, true)
			wantBool(t, "Remove", d.Remove(i), true)
			wantBool(t, "Insert", d.Insert(i, all[i]), true)
			wantBool(t, "Insert again", d.Insert(i, -7), false)
		}
		wantAll(t, d, all...)
		wantBool(t, "Remove", d.Remove(-1), true)
		wantBool(t, "Insert behind one too many", d.Insert(most, -7), false)
		wantBool(t, "Insert", d.Insert(most-1, -7), true)
		wantAll(t, d, append(slices.Clone(all[:most-1]), -7)...)
	})
}

func TestP9_2_ByHand(t *testing.T) {
	d := deque.New("a", "b", "c")
	wantAt(t, d, 0, "a", true)
	wantAt(t, d, 2, "c", true)
	wantAt(t, d, 3, "", false)
	wantAt(t, d, -1, "c", true)
	wantAt(t, d, -3, "a", true)
	wantAt(t, d, -4, "", false)
	wantBool(t, "Set(1)", d.Set(1, "B"), true)
	wantBool(t, "Set(-1)", d.Set(-1, "C"), true)
	wantBool(t, "Set(-3)", d.Set(-3, "A"), true)
	wantBool(t, "Set(3)", d.Set(3, "x"), false)
	wantBool(t, "Set(-4)", d.Set(-4, "x"), false)
	wantAll(t, d, "A", "B", "C")
	wantBool(t, "Insert(0)", d.Insert(0, "0"), true)
	wantBool(t, "Insert(4)", d.Insert(4, "4"), true)
	wantBool(t, "Insert(2)", d.Insert(2, "2"), true)
	wantBool(t, "Insert(7)", d.Insert(7, "x"), false)
	wantBool(t, "Insert(-1)", d.Insert(-1, "x"), false)
	wantAll(t, d, "0", "A", "2", "B", "C", "4")
	wantBool(t, "Remove(2)", d.Remove(2), true)
	wantBool(t, "Remove(-1)", d.Remove(-1), true)
	wantBool(t, "Remove(-4)", d.Remove(-4), true)
	wantBool(t, "Remove(3)", d.Remove(3), false)
	wantBool(t, "Remove(-4)", d.Remove(-4), false)
	wantAll(t, d, "A", "B", "C")
}

// The chapter's example, of Insert.
func TestP9_2_TheExample(t *testing.T) {
	d := deque.New(1, 2, 3)
	wantBool(t, "Insert(3)", d.Insert(3, 4), true)
	wantAll(t, d, 1, 2, 3, 4)
}

func TestP9_2_AtAndSetAtAllPlaces(t *testing.T) {
	for n := range 12 {
		eachList(t, n, func(d *deque.List[int]) {
			m := newModel(upTo(n)...)
			for j, i := range places(n) {
				v, ok := m.At(i)
				wantAt(t, d, i, v, ok)
				wantBool(t, "Set", d.Set(i, -j), m.Set(i, -j))
				wantAll(t, d, m.l...)
			}
		})
	}
}

func TestP9_2_InsertAndRemoveAtAllPlaces(t *testing.T) {
	for n := range 10 {
		for _, i := range places(n) {
			m := newModel(upTo(n)...)
			ok := m.Insert(i, -5)
			eachList(t, n, func(d *deque.List[int]) {
				wantBool(t, fmt.Sprintf("Insert(%d) of %d", i, n), d.Insert(i, -5), ok)
				wantAll(t, d, m.l...)
			})
			m = newModel(upTo(n)...)
			ok = m.Remove(i)
			eachList(t, n, func(d *deque.List[int]) {
				wantBool(t, fmt.Sprintf("Remove(%d) of %d", i, n), d.Remove(i), ok)
				wantAll(t, d, m.l...)
			})
		}
	}
}

// Of an empty list there is one place at which one may be inserted.
func TestP9_2_InsertIntoNothing(t *testing.T) {
	for _, i := range places(3) {
		for _, d := range []*deque.List[int]{deque.New[int](), new(deque.List[int]), pushed(0, 0, 9, true)} {
			wantBool(t, "Insert", d.Insert(i, 5), i == 0)
			wantAll(t, d, []int{5}[:index(i == 0)]...)
		}
	}
}

// The chapter's example, of Cut.
func TestP9_3_TheExample(t *testing.T) {
	wantList(t, "Cut", deque.New(1, 2, 3).Cut(-2, 9), 2, 3)
}

func TestP9_3_ByHand(t *testing.T) {
	for _, x := range []struct {
		from, to int
		want     string
	}{
		{0, 4, "abcde"}, {0, -1, "abcde"}, {-5, -1, "abcde"}, {-5, 4, "abcde"}, {1, 3, "bcd"}, {-4, -2, "bcd"}, {1, -2, "bcd"}, {-4, 3, "bcd"},
		{0, 0, "a"}, {4, 4, "e"}, {-1, -1, "e"}, {-5, -5, "a"}, {2, 2, "c"}, {4, -1, "e"}, {-5, 0, "a"},
		{0, 5, "abcde"}, {0, 99, "abcde"}, {3, 5, "de"}, {3, math.MaxInt, "de"}, {4, math.MaxInt, "e"},
		{-6, 1, "ab"}, {-7, 1, "ab"}, {-99, -4, "ab"}, {math.MinInt, 0, "a"}, {-6, -5, "a"},
		{math.MinInt, math.MaxInt, "abcde"}, {-6, 5, "abcde"}, {-99, 99, "abcde"},
		{1, 0, ""}, {3, 2, ""}, {-1, -2, ""}, {-1, 3, ""}, {3, -3, ""}, {4, 0, ""}, {math.MaxInt, math.MinInt, ""},
		{5, 5, ""}, {5, 9, ""}, {9, 5, ""}, {5, -1, ""}, {math.MaxInt, math.MaxInt, ""}, {math.MaxInt - 1, math.MaxInt, ""},
		{0, -6, ""}, {-5, -6, ""}, {-6, -6, ""}, {-7, -6, ""}, {-99, -7, ""}, {math.MinInt, math.MinInt, ""}, {math.MinInt, math.MinInt + 1, ""}, {0, math.MinInt, ""},
	} {
		d := deque.New(strings.Split("abcde", "")...)
		if got := strings.Join(d.Cut(x.from, x.to), ""); got != x.want {
			t.Errorf("Cut(%d, %d): %q; want %q", x.from, x.to, got, x.want)
		}
		if all := strings.Join(d.All(), ""); all != "abcde" {
			t.Errorf("Cut(%d, %d) leaves %q", x.from, x.to, all)
		}
		d.Keep(x.from, x.to)
		if all := strings.Join(d.All(), ""); all != x.want || d.Len() != len(x.want) {
			t.Errorf("Keep(%d, %d) leaves %q, %d long; want %q", x.from, x.to, all, d.Len(), x.want)
		}
	}
}

func TestP9_3_CutAtAllPlaces(t *testing.T) {
	for n := range 10 {
		m := newModel(upTo(n)...)
		l := ways(n)
		for i, from := range places(n) {
			for j, to := range places(n) {
				want := m.Cut(from, to)
				for _, d := range []*deque.List[int]{l[i%len(l)](), l[j%len(l)](), l[(i+j)%len(l)]()} {
					what := fmt.Sprintf("of %d things from %d to %d", n, from, to)
					wantList(t, "Cut "+what, d.Cut(from, to), want...)
					wantAll(t, d, m.l...)
					d.Keep(from, to)
					wantList(t, "Keep "+what, d.All(), want...)
					wantAll(t, d, want...)
				}
			}
		}
	}
}

func TestP9_3_CutAndKeepInEachWay(t *testing.T) {
	for n := range 10 {
		for from := range n + 1 {
			for to := -1; to <= n; to++ {
				m := newModel(upTo(n)...)
				want := m.Cut(from, to)
				eachList(t, n, func(d *deque.List[int]) {
					wantList(t, "Cut", d.Cut(from, to), want...)
					d.Keep(from, to)
					wantAll(t, d, want...)
					d.Push(false, -1)
					d.Push(true, -2)
					wantAll(t, d, append(append([]int{-2}, want...), -1)...)
				})
			}
		}
	}
}

// Of very many few are left, and many come again.
func TestP9_3_KeepOfVeryMany(t *testing.T) {
	filled(func(d *deque.List[int], all []int) {
		wantList(t, "Cut", d.Cut(-most-1, most), all...)
		wantList(t, "Cut", d.Cut(most-3, most+9), all[most-3:]...)
		wantList(t, "Cut", d.Cut(-most-9, -most+2), all[:3]...)
		wantList(t, "Cut", d.Cut(most, most))
		d.Keep(-most-1, most)
		wantAll(t, d, all...)
		d.Keep(1, -2)
		wantAll(t, d, all[1:most-1]...)
		d.Push(true, all[0])
		d.Push(false, all[most-1])
		wantAll(t, d, all...)
		wantBool(t, "Push", d.Push(false, 0), false)
		d.Keep(most/3, most/3+9)
		wantAll(t, d, all[most/3:most/3+10]...)
		for i := range 100 {
			wantBool(t, "Push", d.Push(i%2 == 0, i), true)
		}
		wantList(t, "Cut", d.Cut(50, 59), all[most/3:most/3+10]...)
		d.Keep(7, 6)
		wantAll(t, d)
		wantPop(t, d, true, 0, false)
		wantBool(t, "Push", d.Push(true, 5), true)
		wantAll(t, d, 5)
	})
}

// A nil list has nothing, and takes nothing.
func TestP9_3_ANilList(t *testing.T) {
	var d *deque.List[string]
	for range 2 {
		wantAll(t, d)
		for _, front := range []bool{true, false} {
			wantBool(t, "Push", d.Push(front, "a"), false)
			wantPop(t, d, front, "", false)
		}
		for _, i := range places(2) {
			wantAt(t, d, i, "", false)
			wantBool(t, "Set", d.Set(i, "a"), false)
			wantBool(t, "Insert", d.Insert(i, "a"), false)
			wantBool(t, "Remove", d.Remove(i), false)
			for _, to := range places(2) {
				wantList(t, "Cut", d.Cut(i, to))
				d.Keep(i, to)
			}
		}
	}
	if d != nil {
		t.Error("it is nil no more")
	}
}

// The zero list is as one that New made of nothing.
func TestP9_3_TheZeroList(t *testing.T) {
	var d deque.List[string]
	wantAll(t, &d)
	for _, i := range places(2) {
		wantAt(t, &d, i, "", false)
		wantBool(t, "Set", d.Set(i, "a"), false)
		wantBool(t, "Remove", d.Remove(i), false)
		for _, to := range places(2) {
			wantList(t, "Cut", d.Cut(i, to))
			d.Keep(i, to)
		}
	}
	wantPop(t, &d, true, "", false)
	wantPop(t, &d, false, "", false)
	first := []func(*deque.List[string]) bool{
		func(d *deque.List[string]) bool { return d.Push(true, "a") },
		func(d *deque.List[string]) bool { return d.Push(false, "a") },
		func(d *deque.List[string]) bool { return d.Insert(0, "a") },
	}
	for _, come := range first {
		d := new(deque.List[string])
		wantBool(t, "the first one", come(d), true)
		wantAll(t, d, "a")
		d.Push(true, "b")
		d.Push(false, "c")
		wantAll(t, d, "b", "a", "c")
	}
}

// wantSameAnswers makes the calls that a number tells in both lists, and holds what they answer against one another.
func wantSameAnswers(t *testing.T, d, m calls[int], call, i, j, v int) {
	t.Helper()
	switch call {
	case 0, 1:
		wantBool(t, fmt.Sprintf("Push(%v)", call == 0), d.Push(call == 0, v), m.Push(call == 0, v))
	case 2, 3:
		want, ok := m.Pop(call == 2)
		wantPop(t, d, call == 2, want, ok)
	case 4:
		wantBool(t, fmt.Sprintf("Insert(%d)", i), d.Insert(i, v), m.Insert(i, v))
	case 5:
		wantBool(t, fmt.Sprintf("Remove(%d)", i), d.Remove(i), m.Remove(i))
	case 6:
		wantBool(t, fmt.Sprintf("Set(%d)", i), d.Set(i, v), m.Set(i, v))
	case 7:
		d.Keep(i, j)
		m.Keep(i, j)
	case 8:
		want, ok := m.At(i)
		wantAt(t, d, i, want, ok)
	case 9:
		wantList(t, fmt.Sprintf("Cut(%d, %d)", i, j), d.Cut(i, j), m.Cut(i, j)...)
	}
}

// Whatever short sequence of calls is made, from nothing on, each answer is the one that is meant.
func TestP9_3_AllShortSequences(t *testing.T) {
	moves := []struct{ call, i, j int }{{0, 0, 0}, {1, 0, 0}, {2, 0, 0}, {3, 0, 0}, {4, 1, 0}, {4, 2, 0}, {5, 1, 0}, {5, -2, 0}, {6, -1, 0}, {7, 1, -1}, {7, -2, 1}}
	const long = 5
	all := 1
	for range long {
		all *= len(moves)
	}
	for sequence := range all {
		d, m := deque.New[int](), newModel[int]()
		for v := range long {
			x := moves[sequence%len(moves)]
			sequence /= len(moves)
			wantSameAnswers(t, d, m, x.call, x.i, x.j, v+1)
			wantAll(t, d, m.l...)
		}
	}
}

// rolled gives numbers below n that look as if they were thrown; of one seed always the same ones.
func rolled(seed uint64) func(n int) int {
	return func(n int) int {
		seed = seed*6364136223846793005 + 1442695040888963407
		return int((seed ^ seed>>29) >> 11 % uint64(n))
	}
}

// roll makes very many calls in both lists: now more come, now more go.
func roll(t *testing.T, seed uint64, d, m calls[int], times int) {
	t.Helper()
	next := rolled(seed)
	coming := true
	for v := range times {
		if next(60) == 0 {
			coming = !coming
		}
		call := next(4)
		switch {
		case next(3) == 0:
			call = 4 + next(6)
		case next(4) > 0:
			call = call%2 + 2*index(!coming)
		}
		n := m.Len()
		i, j := next(2*n+5)-n-2, next(2*n+5)-n-2
		if call == 7 && next(4) > 0 {
			i, j = next(3), -1-next(3)
		}
		wantSameAnswers(t, d, m, call, i, j, v)
		wantAll(t, d, m.All()...)
	}
}

func TestP9_3_RolledCalls(t *testing.T) {
	for seed := range uint64(40) {
		roll(t, seed, deque.New[int](), newModel[int](), 3000)
		roll(t, seed, deque.New(upTo(300)...), newModel(upTo(300)...), 1000)
	}
}

// What is pushed at an end is popped there, and leaves the list as it was.
func TestP9_4_WhatIsPushedIsPoppedThere(t *testing.T) {
	for n := range 20 {
		for _, front := range []bool{true, false} {
			for _, times := range []int{1, 2, 3, 8, 40} {
				eachList(t, n, func(d *deque.List[int]) {
					for i := range times {
						wantBool(t, "Push", d.Push(front, -1-i), true)
						wantAt(t, d, -index(!front), -1-i, true)
					}
					for i := range times {
						wantPop(t, d, front, i-times, true)
					}
					wantAll(t, d, upTo(n)...)
				})
			}
		}
	}
}

// Both ends are a stack each, till one is popped from that end that came at the other.
func TestP9_4_TwoStacks(t *testing.T) {
	for seed := range uint64(20) {
		next, d := rolled(seed), deque.New[string]()
		var stacks [2][]string
		for i := range 2000 {
			front := next(2) == 0
			s := &stacks[index(front)]
			if next(100) < 55 || len(*s) == 0 {
				*s = append(*s, strconv.Itoa(i))
				wantBool(t, "Push", d.Push(front, strconv.Itoa(i)), true)
				continue
			}
			wantPop(t, d, front, (*s)[len(*s)-1], true)
			*s = (*s)[:len(*s)-1]
		}
		wantAll(t, d, append(turned(stacks[1]), stacks[0]...)...)
	}
}

// A list, read from its other end, answers as one pushed from its other end.
func TestP9_5_AtAllPlacesFromTheOtherEnd(t *testing.T) {
	for n := range 8 {
		l := ways(n)
		for _, i := range places(n) {
			for _, j := range places(n)[:4*n+7] {
				for call := range 10 {
					d := l[(i&0xff+j&0xff+call)%len(l)]()
					other := mirror[int]{deque.New(turned(upTo(n))...)}
					wantSameAnswers(t, other, d, call, i, j, -5)
					wantAll(t, other, d.All()...)
				}
			}
		}
	}
}

func TestP9_5_RolledCallsFromTheOtherEnd(t *testing.T) {
	for seed := range uint64(20) {
		roll(t, seed, mirror[int]{deque.New[int]()}, deque.New[int](), 3000)
		roll(t, seed, mirror[int]{deque.New[int]()}, newModel[int](), 1000)
	}
}

// spoil writes over a list, its spare room too.
func spoil(l []int) {
	l = l[:cap(l)]
	for i := range l {
		l[i] = -99
	}
}

// change turns all that a list has, and more than that.
func change(d *deque.List[int]) {
	for i := range d.Len() {
		d.Set(i, -77)
	}
	for i := range 3 {
		d.Push(true, -77)
		d.Push(false, -77)
		d.Insert(i, -77)
		d.Remove(-2)
	}
	d.Pop(true)
	d.Pop(false)
	d.Keep(1, -2)
	for range 40 {
		d.Push(false, -77)
	}
	d.Keep(2, 1)
}

// What was told stays as it is, whatever befalls the list; and the list stays as it is, whatever befalls what was told.
func TestP9_3_WhatWasToldStays(t *testing.T) {
	for n := range 20 {
		eachList(t, n, func(d *deque.List[int]) {
			all, cut, again := d.All(), d.Cut(1, -2), d.Cut(1, -2)
			spoil(d.All())
			spoil(d.Cut(0, -1))
			spoil(d.Cut(1, n/2))
			wantAll(t, d, upTo(n)...)
			change(d)
			wantList(t, "All", all, upTo(n)...)
			wantList(t, "Cut", cut, newModel(upTo(n)...).Cut(1, -2)...)
			spoil(cut)
			spoil(all)
			wantList(t, "Cut", again, newModel(upTo(n)...).Cut(1, -2)...)
		})
	}
}

// What New was given is not changed, its spare room neither; and the list is not changed, when that is.
func TestP9_1_WhatNewWasGivenStays(t *testing.T) {
	for n := range 40 {
		for _, spare := range []int{0, 1, 30} {
			given := upTo(n + spare)
			d := deque.New(given[:n]...)
			other := deque.New(given[:n]...)
			d.Set(0, -1)
			d.Set(-1, -2)
			wantAll(t, other, upTo(n)...)
			d.Push(false, -3)
			d.Push(true, -4)
			d.Insert(n/2, -5)
			change(d)
			wantList(t, "what was given", given, upTo(n+spare)...)
			spoil(given)
			wantAll(t, other, upTo(n)...)
		}
	}
	given := upTo(most + 10)
	d := deque.New(given...)
	d.Pop(false)
	d.Push(false, -1)
	d.Set(0, -1)
	wantList(t, "what was given", given, upTo(most+10)...)
}

// What tells something turns nothing, nor does what is refused.
func TestP9_2_NothingElseIsTurned(t *testing.T) {
	for n := range 9 {
		eachList(t, n, func(d *deque.List[int]) {
			for _, i := range places(n) {
				d.At(i)
				d.Cut(i, -1)
				d.Cut(0, i)
				d.Len()
				d.All()
				if i < -n || i >= n {
					d.Set(i, -1)
					d.Remove(i)
				}
				if i < 0 || i > n {
					d.Insert(i, -1)
				}
			}
			wantAll(t, d, upTo(n)...)
		})
	}
}

// Of things of any kind, such as can't be compared, too.
func TestP9_1_ThingsOfAnyKind(t *testing.T) {
	wantAsInts(t, strconv.Itoa, func(v string) string { return v })
	wantAsInts(t, func(i int) [3]int { return [3]int{i, i, i} }, func(v [3]int) string { return strconv.Itoa(v[1]) })
	wantAsInts(t, func(i int) []int { return []int{i} }, func(v []int) string { return strconv.Itoa(v[0]) })
	wantAsInts(t, func(i int) *int { return &i }, func(v *int) string { return strconv.Itoa(*v) })
	wantAsInts(t, func(i int) func() int { return func() int { return i } }, func(v func() int) string { return strconv.Itoa(v()) })
	wantAsInts(t, func(i int) map[int]int { return map[int]int{0: i} }, func(v map[int]int) string { return strconv.Itoa(v[0]) })
	wantAsInts(t, func(i int) any { return i }, func(v any) string { return fmt.Sprint(v) })
	wantAsInts(t, func(i int) *deque.List[int] { return deque.New(i) }, func(v *deque.List[int]) string { return strconv.Itoa(v.All()[0]) })

	d := deque.New(struct{}{}, struct{}{})
	for range 30 {
		wantBool(t, "Push", d.Push(true, struct{}{}), true)
		wantBool(t, "Insert", d.Insert(0, struct{}{}), true)
	}
	wantAll(t, d, make([]struct{}, 62)...)
	wantAt(t, d, 61, struct{}{}, true)
	wantAt(t, d, 62, struct{}{}, false)
	wantBool(t, "Set", d.Set(62, struct{}{}), false)
	wantBool(t, "Remove", d.Remove(-62), true)
	wantPop(t, d, false, struct{}{}, true)
	wantList(t, "Cut", d.Cut(5, 7), make([]struct{}, 3)...)
}

// wantAsInts makes the calls in a list of some kind of things and in the model; of each thing its text is told.
func wantAsInts[V string | [3]int | []int | *int | func() int | map[int]int | any | *deque.List[int]](t *testing.T, thing func(int) V, text func(V) string) {
	t.Helper()
	d, m := deque.New(thing(1), thing(2)), newModel("1", "2")
	next := rolled(5)
	for i := range 3000 {
		front, place := next(2) == 0, next(m.Len()+4)-2
		switch next(8) {
		case 0, 1:
			wantBool(t, "Push", d.Push(front, thing(i)), m.Push(front, strconv.Itoa(i)))
		case 2, 3:
			v, ok := d.Pop(front)
			want, wantOK := m.Pop(front)
			wantText(t, v, ok, text, want, wantOK)
		case 4:
			wantBool(t, "Insert", d.Insert(place, thing(i)), m.Insert(place, strconv.Itoa(i)))
		case 5:
			wantBool(t, "Remove", d.Remove(place), m.Remove(place))
		case 6:
			wantBool(t, "Set", d.Set(place, thing(i)), m.Set(place, strconv.Itoa(i)))
		case 7:
			v, ok := d.At(place)
			want, wantOK := m.At(place)
			wantText(t, v, ok, text, want, wantOK)
		}
		var texts []string
		for _, v := range d.All() {
			texts = append(texts, text(v))
		}
		wantList(t, "All", texts, m.l...)
	}
}

// wantText holds a thing against a text; where there is none it is its kind's zero value.
func wantText[V any](t *testing.T, v V, ok bool, text func(V) string, want string, wantOK bool) {
	t.Helper()
	if ok {
		wantOne(t, "a thing", text(v), ok, want, wantOK)
		return
	}
	if got, zero := fmt.Sprintf("%#v", v), fmt.Sprintf("%#v", *new(V)); wantOK || got != zero {
		t.Fatalf("nothing: %s; want %s, %v", got, want, wantOK)
	}
}
