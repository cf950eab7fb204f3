package scan_test

import (
	"math"
	"slices"
	"strconv"
	"strings"
	"testing"

	"mews/dict"
	"mews/hash"
	"mews/scan"
)

// longest is more turns than any walk of these tests may have.
const longest = 1 << 17

// walk makes turns, or scans, from 0 on till 0 is told, and tells how often each key was told; ahead of each but the first one it lets something befall the table.
func walk(t *testing.T, table *dict.Table[int], turn func(cursor uint64) (uint64, []string), befall func(turns int)) map[string]int {
	t.Helper()
	times := map[string]int{}
	cursor := uint64(0)
	for turns := range longest {
		if turns > 0 {
			befall(turns)
		}
		next, keys := turn(cursor)
		for _, k := range keys {
			// Whichever promise the walk is for, P8.5 holds in it.
			if _, ok := table.Get(k); !ok {
				t.Fatalf("%s: %q is told from %#x on, and is not there", how(table), k, cursor)
			}
			times[k]++
		}
		if next == 0 {
			return times
		}
		cursor = next
	}
	t.Fatalf("%s: 0 is not told", how(table))
	return nil
}

// byTurns, and byScans, are what a walk is made of.
func byTurns(table *dict.Table[int]) func(uint64) (uint64, []string) {
	return func(cursor uint64) (uint64, []string) { return scan.Turn(table, cursor) }
}

func byScans(table *dict.Table[int], count func() int) func(uint64) (uint64, []string) {
	return func(cursor uint64) (uint64, []string) { return scan.Scan(table, cursor, count()) }
}

func nothing(int) {}

// shape is how a table stands, but for its keys; of one that is not parted moved and toward are -1.
type shape struct{ size, moved, toward int }

// shapes are such as each other one can be brought to, if one key stays.
var shapes = []shape{
	{3, -1, -1}, {4, -1, -1}, {5, -1, -1}, {6, -1, -1},
	{3, 0, 4}, {3, 3, 4}, {3, 7, 4}, {4, 0, 5}, {4, 1, 5}, {4, 9, 5}, {5, 0, 6}, {5, 17, 6}, {5, 31, 6},
	{4, 0, 3}, {4, 5, 3}, {4, 8, 3}, {4, 15, 3}, {5, 0, 4}, {5, 11, 4}, {5, 16, 4}, {5, 20, 4}, {6, 0, 5}, {6, 40, 5}, {6, 63, 5},
}

// turns are how many a table of a shape is gone through by.
func (s shape) turns() int {
	if s.toward < 0 {
		return 1 << s.size
	}
	return 1 << min(s.size, s.toward)
}

// other is one of the keys that come and go.
func other(i int) string { return "other" + strconv.Itoa(i) }

// bring brings a table to a shape, by keys that come and go.
func bring(t *testing.T, table *dict.Table[int], to shape) {
	t.Helper()
	drop(table, others(table)...)
	for table.Step(math.MaxInt); table.Size() > to.size; table.Step(math.MaxInt) {
		table.Put(other(0), 0)
		table.Drop(other(0))
	}
	for i := 0; table.Size() < to.size || to.toward > to.size && table.Toward() < 0; i++ {
		table.Put(other(i), i)
		if table.Size() < to.size {
			table.Step(math.MaxInt)
		}
	}
	if to.toward >= 0 && to.toward < to.size {
		table.Put(other(0), 0)
		for _, k := range others(table) {
			if table.Toward() < 0 {
				table.Drop(k)
			}
		}
	}
	table.Step(to.moved)
	wantParted(t, table, to.size, to.moved, to.toward)
}

// others are the keys that come and go which are there.
func others(table *dict.Table[int]) []string {
	return slices.DeleteFunc(table.Keys(), func(k string) bool { return !strings.HasPrefix(k, "other") })
}

// A table stands in some way, and behind so many turns in some other way: a key that is there all the time is told.
func TestP8_4_OneChange(t *testing.T) {
	roll := rolled(84)
	for _, from := range shapes {
		for _, to := range shapes {
			for when := 1; when < from.turns(); when++ {
				table := dict.New[int](seeds[when%3])
				stays := nth(roll(1000))
				table.Put(stays, 0)
				bring(t, table, from)
				times := walk(t, table, byTurns(table), func(turns int) {
					if turns == when {
						bring(t, table, to)
					}
				})
				if times[stays] < 1 {
					t.Fatalf("from %v, behind %d turns to %v: %q is not told", from, when, to, stays)
				}
			}
		}
	}
}

// Ahead of each turn, or of one in some, the table is brought to some shape.
func TestP8_4_ManyChanges(t *testing.T) {
	roll := rolled(48)
	for round := range 3000 {
		table := dict.New[int](uint64(round))
		stays := nth(roll(1000))
		table.Put(stays, 0)
		bring(t, table, shapes[roll(len(shapes))])
		often := 1 + roll(6)
		times := walk(t, table, byTurns(table), func(int) {
			if roll(often) == 0 {
				bring(t, table, shapes[roll(len(shapes))])
			}
		})
		if times[stays] < 1 {
			t.Fatalf("round %d: %q is not told", round, stays)
		}
	}
}

// Many keys stay, while others come, up to some number, and go again, by turns, and some of those that stay are put anew: all that stay are told.
func TestP8_4_ManyKeysStay(t *testing.T) {
	for round := range 300 {
		roll := rolled(uint64(round))
		table := dict.New[int](uint64(round % 5))
		stay := numbered(1 + roll(60))
		put(table, stay...)
		most := 1 + roll(1200)
		came, gone := roll(most), 0
		for i := range came {
			table.Put(other(i), i)
		}
		turn := byTurns(table)
		if round%3 > 0 {
			turn = byScans(table, func() int { return roll(12) - 1 })
		}
		grows := round%2 == 0
		times := walk(t, table, turn, func(int) {
			for range roll(most) / 8 {
				if grows {
					table.Put(other(came), came)
					came++
				} else {
					table.Drop(other(gone))
					gone = min(gone+1, came)
				}
			}
			if n := came - gone; n == 0 || n > most {
				grows = n == 0
			}
			table.Step(roll(30) * roll(30))
			table.Put(stay[roll(len(stay))], -1)
		})
		wantAll(t, times, stay)
	}
}

// A table of the greatest size shrinks while it is gone through.
func TestP8_4_FromTheGreatestSize(t *testing.T) {
	stay := numbered(200)
	for _, many := range []int{1, 50} {
		table := filled(1, 1<<15+1)
		wantParted(t, table, 16, -1, -1)
		next := len(stay)
		times := walk(t, table, byScans(table, func() int { return many }), func(int) {
			for range 5 * many {
				table.Step(1000)
				table.Drop(nth(next))
				next++
			}
		})
		wantAll(t, times, stay)
		if table.Size() > 11 {
			t.Errorf("%s: the test is of one that shrinks further", how(table))
		}
	}
}

// A table grows to the greatest size while it is gone through.
func TestP8_4_ToTheGreatestSize(t *testing.T) {
	stay := numbered(200)
	for _, many := range []int{1, 50} {
		table := filled(1, 200)
		wantParted(t, table, 8, -1, -1)
		came := 0
		times := walk(t, table, byScans(table, func() int { return many }), func(int) {
			for range 400 * many {
				if came < 40000 {
					table.Put(other(came), came)
					came++
				}
			}
			table.Step(500)
		})
		wantAll(t, times, stay)
		wantParted(t, table, 16, -1, -1)
	}
}

func wantAll(t *testing.T, times map[string]int, stay []string) {
	t.Helper()
	for _, k := range stay {
		if times[k] < 1 {
			t.Fatalf("%q is not told", k)
		}
	}
}

// What goes behind a turn is told no more, though its place was not gone past yet; what comes is told, if its place was not.
func TestP8_5_WhatGoesAndComes(t *testing.T) {
	eachTable(t, 0, func(table *dict.Table[int]) {
		keys := table.Keys()
		cursor, told := scan.Turn(table, 0)
		for _, k := range keys {
			table.Drop(k)
		}
		for cursor != 0 {
			next, keys := scan.Turn(table, cursor)
			if len(keys) > 0 {
				t.Fatalf("%s: %q are told, and went", how(table), keys)
			}
			cursor = next
		}
		put(table, told...)
		_, anew := scan.Scan(table, 0, math.MaxInt)
		wantSameKeys(t, "Scan", anew, told)
	})
}

// What is told is just what is there, of keys that come and go, whatever the cursor.
func TestP8_5_OnlyWhatIsThere(t *testing.T) {
	roll := rolled(85)
	there := map[string]bool{}
	table := dict.New[int](1)
	look := func(what string, keys []string) {
		t.Helper()
		for _, k := range keys {
			if !there[k] {
				t.Fatalf("%s: %s tells %q, which is not there", how(table), what, k)
			}
		}
	}
	for round := range 20000 {
		k := nth(roll(60 + round%7*20))
		if roll(700) < 350+round/1000%2*300-150 {
			table.Put(k, round)
			there[k] = true
		} else {
			table.Drop(k)
			delete(there, k)
		}
		cursor := hash.Of(uint64(round), k)
		_, keys := scan.Turn(table, cursor)
		look("Turn", keys)
		_, keys = scan.Scan(table, cursor, roll(9))
		look("Scan", keys)
		picked, ok := scan.Pick(table, cursor)
		if ok != (len(there) > 0) {
			t.Fatalf("%s: Pick tells %v", how(table), ok)
		}
		if ok {
			look("Pick", []string{picked})
		}
	}
}

// Of a table that does not change each key is told just once, from 0 on till 0 is told, by whichever turns.
func TestP8_6_EachKeyOnce(t *testing.T) {
	for _, seed := range seeds {
		eachTable(t, seed, func(table *dict.Table[int]) {
			wantOnce(t, table, byTurns(table))
			for _, n := range []int{math.MinInt, 0, 1, 2, 3, 7, 20, table.Len() - 1, table.Len(), table.Len() + 1, math.MaxInt} {
				wantOnce(t, table, byScans(table, func() int { return n }))
			}
			roll := rolled(seed)
			wantOnce(t, table, byScans(table, func() int { return roll(9) }))
		})
	}
}

func TestP8_6_EachKeyOfGreatTablesOnce(t *testing.T) {
	for _, n := range []int{1000, 1025, 5000, 32768, 32769, 70000} {
		table := dict.New[int](1)
		put(table, numbered(n)...)
		for range 3 {
			wantOnce(t, table, byTurns(table))
			wantOnce(t, table, byScans(table, func() int { return 100 }))
			wantOnce(t, table, byScans(table, func() int { return 100001 }))
			table.Step(n / 3)
		}
		drop(table, numbered(n)[n/9:]...)
		wantOnce(t, table, byTurns(table))
		wantOnce(t, table, byScans(table, func() int { return 10 }))
	}
}

func wantOnce(t *testing.T, table *dict.Table[int], turn func(uint64) (uint64, []string)) {
	t.Helper()
	times := walk(t, table, turn, nothing)
	keys := table.Keys()
	if len(times) != len(keys) {
		t.Fatalf("%s: %d keys are told", how(table), len(times))
	}
	for _, k := range keys {
		if times[k] != 1 {
			t.Fatalf("%s: %q is told %d times", how(table), k, times[k])
		}
	}
}

// So many turns are made as the lesser one of both sizes has places, each of them at a place of its own.
func TestP8_6_AsManyTurnsAsPlaces(t *testing.T) {
	eachTable(t, 0, func(table *dict.Table[int]) {
		var seen []uint64
		walk(t, table, func(cursor uint64) (uint64, []string) {
			seen = append(seen, cursor)
			return scan.Turn(table, cursor)
		}, nothing)
		if !slices.Equal(seen, hash.Walk(lesser(table))) {
			t.Fatalf("%s: the cursors are %d", how(table), seen)
		}
	})
}
