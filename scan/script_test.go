package scan_test

import (
	"strconv"
	"strings"
	"testing"

	"mews/dict"
	"mews/scan"
)

// A script is calls, a line each, with what is told: `is` the size, how many are moved, and the size to come; of a turn, and of a scan, the cursor and the keys; `turns`, and `scans` of a count, are those from 0 on till 0 is told. (Of `put`, `drop` and `step` nothing is held.) The scripts of this file were not worked out by this program.

// follow does what a script says.
func follow(t *testing.T, table *dict.Table[int], script string) {
	t.Helper()
	for i, text := range strings.Split(strings.TrimSpace(script), "\n") {
		call, want, _ := strings.Cut(text, ": ")
		words := strings.Fields(call)
		if got := do(t, table, words[0], words[1:]); got != want {
			t.Fatalf("line %d, %s: %s; want %s", i+1, call, got, want)
		}
	}
}

// do does what a line says, and tells what it told.
func do(t *testing.T, table *dict.Table[int], call string, words []string) string {
	t.Helper()
	switch call {
	case "put":
		for i, key := range words {
			table.Put(key, i)
		}
	case "drop":
		for _, key := range words {
			table.Drop(key)
		}
	case "step":
		table.Step(count(t, words[0]))
	case "is":
		return strconv.Itoa(table.Size()) + " " + strconv.Itoa(table.Moved()) + " " + strconv.Itoa(table.Toward())
	case "turn":
		return told(scan.Turn(table, number(t, words[0])))
	case "scan":
		return told(scan.Scan(table, number(t, words[0]), count(t, words[1])))
	case "turns":
		return walkTold(func(c uint64) (uint64, []string) { return scan.Turn(table, c) })
	case "scans":
		return walkTold(func(c uint64) (uint64, []string) { return scan.Scan(table, c, count(t, words[0])) })
	case "pick":
		if key, ok := scan.Pick(table, number(t, words[0])); ok {
			return key
		}
		return "none"
	default:
		t.Fatalf("%q is no call", call)
	}
	return ""
}

// walkTold tells all that is told from 0 on till 0 is told; or till there is no end.
func walkTold(turn func(uint64) (uint64, []string)) string {
	var texts []string
	for cursor := uint64(0); len(texts) < 1000; {
		next, keys := turn(cursor)
		texts = append(texts, told(next, keys))
		if cursor = next; cursor == 0 {
			break
		}
	}
	return strings.Join(texts, " ")
}

// told is a cursor and its keys, as a script has them.
func told(cursor uint64, keys []string) string {
	return strconv.FormatUint(cursor, 10) + "[" + strings.Join(keys, " ") + "]"
}

func number(t *testing.T, word string) uint64 {
	t.Helper()
	n, err := strconv.ParseUint(word, 0, 64)
	if err != nil {
		t.Fatal(err)
	}
	return n
}

func count(t *testing.T, word string) int {
	t.Helper()
	n, err := strconv.Atoi(word)
	if err != nil {
		t.Fatal(err)
	}
	return n
}

// Letters come, grow the table three times, go, and shrink it: of the three seeds. (What is scanned and picked is of P8.2 and P8.3.)
func TestP8_1_Letters(t *testing.T) {
	for i, script := range []string{`
is: 2 -1 -1
turns: 2[] 1[] 3[] 0[]
turn 5: 3[]
turn 0xffffffffffffffff: 0[]
scans 1: 0[]
scan 0 0: 0[]
scan 0 -1: 0[]
scan 2 9: 0[]
pick 0: none
pick 7: none
pick 0xffffffffffffffff: none
put a
turns: 2[] 1[] 3[] 0[a]
scans 1: 0[a]
pick 0: a
pick 1: a
pick 0xffffffffffffffff: a
put b c d
is: 2 -1 -1
turns: 2[b] 1[d c] 3[] 0[a]
scans 1: 2[b] 1[d c] 0[a]
scans 2: 1[b d c] 0[a]
scans 3: 1[b d c] 0[a]
scans 4: 0[b d c a]
scans 5: 0[b d c a]
turn 6: 1[d c]
turn 0xfffffffffffffffd: 3[]
scan 1 1: 0[a]
scan 0x8000000000000000 2: 1[b d c]
pick 0: b
pick 1: d
pick 2: c
pick 3: a
pick 4: b
pick 0xffffffffffffffff: a
pick 0x8000000000000000: b
put e
is: 2 0 3
turns: 2[e b] 1[d c] 3[] 0[a]
scans 1: 2[e b] 1[d c] 0[a]
scans 3: 1[e b d c] 0[a]
turn 4: 2[e b]
turn 7: 0[a]
turn 0xffffffffffffffff: 0[a]
pick 3: c
pick 4: a
pick 5: e
pick 9: a
put f
is: 2 1 3
turns: 2[b e] 1[d c] 3[] 0[a f]
scans 2: 2[b e] 1[d c] 0[a f]
scan 6 1: 1[d c]
put g
step 1
put h
is: 3 -1 -1
turns: 4[b e] 2[h] 6[] 1[c d g] 5[] 3[] 7[a] 0[f]
scans 4: 1[b e h c d g] 0[a f]
turn 5: 3[]
pick 8: b
pick 15: f
pick 0xffffffffffffffff: f
put i
is: 3 0 4
turns: 4[b e] 2[i h] 6[] 1[c d g] 5[] 3[] 7[a] 0[f]
scans 3: 2[b e i h] 1[c d g] 0[a f]
scans 100: 0[b e i h c d g a f]
put j k l
is: 3 3 4
turns: 4[b j e] 2[i h] 6[] 1[c d g] 5[l] 3[k] 7[a] 0[f]
scans 1: 4[b j e] 2[i h] 1[c d g] 5[l] 3[k] 7[a] 0[f]
turn 9: 5[l]
turn 8: 4[b j e]
turn 15: 0[f]
pick 0: a
pick 5: g
pick 11: l
pick 12: a
pick 0x200000000: k
put m n o p q
step 9
is: 4 9 5
turns: 8[b] 4[e j] 12[i h] 2[q] 10[] 6[p] 14[] 1[g d c] 9[] 5[l] 13[k m] 3[] 11[o] 7[n a] 15[f] 0[]
scans 5: 12[b e j i h] 1[q p g d c] 7[l k m o n a] 0[f]
scan 12 2: 6[q p]
scan 0xf0f0f0f0f0f0f0f3 4: 15[o n a f]
scan 6 0: 1[g d c]
scan 6 -3: 1[g d c]
scan 0 9223372036854775807: 0[b e j i h q p g d c l k m o n a f]
drop a b c d e f g h i j k l m n o
is: 5 1 4
turns: 8[] 4[] 12[] 2[q] 10[] 6[p] 14[] 1[] 9[] 5[] 13[] 3[] 11[] 7[] 15[] 0[]
scans 1: 2[q] 6[p] 0[]
scans 2: 6[q p] 0[]
drop p
is: 5 2 4
turns: 8[] 4[] 12[] 2[q] 10[] 6[] 14[] 1[] 9[] 5[] 13[] 3[] 11[] 7[] 15[] 0[]
turn 8: 4[]
turn 12: 2[q]
turn 7: 15[]
pick 0: q
pick 1: q
drop q
is: 5 3 4
turns: 8[] 4[] 12[] 2[] 10[] 6[] 14[] 1[] 9[] 5[] 13[] 3[] 11[] 7[] 15[] 0[]
scans 1: 5[] 0[]
scans 2: 0[]
scan 5 -7: 0[]
scan 0xffffffff00000005 0: 0[]
pick 0: none
pick 1: none
pick 0x100000000: none
put r s t
is: 5 6 4
turns: 8[] 4[] 12[] 2[] 10[] 6[s] 14[] 1[r] 9[] 5[] 13[] 3[] 11[] 7[t] 15[] 0[]
scans 2: 1[s r] 0[t]
turn 15: 0[]
pick 0: s
pick 1: t
pick 2: r
pick 3: s
pick 4: t
pick 0xffffffffffffffff: s
step 8
is: 5 14 4
turns: 8[] 4[] 12[] 2[] 10[] 6[s] 14[] 1[r] 9[] 5[] 13[] 3[] 11[] 7[t] 15[] 0[]
put u v w
step 99
is: 4 -1 -1
turns: 8[] 4[u] 12[] 2[] 10[] 6[v s] 14[] 1[r] 9[] 5[] 13[] 3[w] 11[] 7[t] 15[] 0[]
scans 3: 6[u v s] 7[r w t] 0[]
turn 13: 3[w]
`, `
is: 2 -1 -1
turns: 2[] 1[] 3[] 0[]
turn 5: 3[]
turn 0xffffffffffffffff: 0[]
scans 1: 0[]
scan 0 0: 0[]
scan 0 -1: 0[]
scan 2 9: 0[]
pick 0: none
pick 7: none
pick 0xffffffffffffffff: none
put a
turns: 2[a] 1[] 3[] 0[]
scans 1: 2[a] 0[]
pick 0: a
pick 1: a
pick 0xffffffffffffffff: a
put b c d
is: 2 -1 -1
turns: 2[d c a] 1[b] 3[] 0[]
scans 1: 2[d c a] 1[b] 0[]
scans 2: 2[d c a] 0[b]
scans 3: 2[d c a] 0[b]
scans 4: 1[d c a b] 0[]
scans 5: 0[d c a b]
turn 6: 1[b]
turn 0xfffffffffffffffd: 3[]
scan 1 1: 0[]
scan 0x8000000000000000 2: 2[d c a]
pick 0: d
pick 1: c
pick 2: a
pick 3: b
pick 4: d
pick 0xffffffffffffffff: b
pick 0x8000000000000000: d
put e
is: 2 0 3
turns: 2[d c a] 1[e b] 3[] 0[]
scans 1: 2[d c a] 1[e b] 0[]
scans 3: 2[d c a] 0[e b]
turn 4: 2[d c a]
turn 7: 0[]
turn 0xffffffffffffffff: 0[]
pick 3: e
pick 4: b
pick 5: d
pick 9: b
put f
is: 2 1 3
turns: 2[c d a] 1[e b f] 3[] 0[]
scans 2: 2[c d a] 1[e b f] 0[]
scan 6 1: 1[e b f]
put g
step 1
put h
is: 3 -1 -1
turns: 4[c d] 2[h a] 6[] 1[b e f] 5[] 3[] 7[] 0[g]
scans 4: 2[c d h a] 0[b e f g]
turn 5: 3[]
pick 8: c
pick 15: g
pick 0xffffffffffffffff: g
put i
is: 3 0 4
turns: 4[c d] 2[i h a] 6[] 1[b e f] 5[] 3[] 7[] 0[g]
scans 3: 2[c d i h a] 1[b e f] 0[g]
scans 100: 0[c d i h a b e f g]
put j k l
is: 3 3 4
turns: 4[c k d] 2[i h a] 6[] 1[b e f] 5[] 3[l j] 7[] 0[g]
scans 1: 4[c k d] 2[i h a] 1[b e f] 3[l j] 0[g]
turn 9: 5[]
turn 8: 4[c k d]
turn 15: 0[g]
pick 0: i
pick 5: f
pick 11: d
pick 12: i
pick 0x200000000: l
put m n o p q
step 9
is: 4 9 5
turns: 8[c] 4[d k] 12[a i h] 2[p] 10[] 6[q] 14[] 1[f e b] 9[] 5[m] 13[j l] 3[] 11[n] 7[o] 15[g] 0[]
scans 5: 12[c d k a i h] 1[p q f e b] 7[m j l n o] 0[g]
scan 12 2: 6[p q]
scan 0xf0f0f0f0f0f0f0f3 4: 0[n o g]
scan 6 0: 1[f e b]
scan 6 -3: 1[f e b]
scan 0 9223372036854775807: 0[c d k a i h p q f e b m j l n o g]
drop a b c d e f g h i j k l m n o
is: 5 1 4
turns: 8[] 4[] 12[] 2[p] 10[] 6[q] 14[] 1[] 9[] 5[] 13[] 3[] 11[] 7[] 15[] 0[]
scans 1: 2[p] 6[q] 0[]
scans 2: 6[p q] 0[]
drop p
is: 5 2 4
turns: 8[] 4[] 12[] 2[] 10[] 6[q] 14[] 1[] 9[] 5[] 13[] 3[] 11[] 7[] 15[] 0[]
turn 8: 4[]
turn 12: 2[]
turn 7: 15[]
pick 0: q
pick 1: q
drop q
is: 5 3 4
turns: 8[] 4[] 12[] 2[] 10[] 6[] 14[] 1[] 9[] 5[] 13[] 3[] 11[] 7[] 15[] 0[]
scans 1: 5[] 0[]
scans 2: 0[]
scan 5 -7: 0[]
scan 0xffffffff00000005 0: 0[]
pick 0: none
pick 1: none
pick 0x100000000: none
put r s t
is: 5 6 4
turns: 8[] 4[t] 12[] 2[] 10[] 6[r] 14[] 1[s] 9[] 5[] 13[] 3[] 11[] 7[] 15[] 0[]
scans 2: 6[t r] 0[s]
turn 15: 0[]
pick 0: t
pick 1: r
pick 2: s
pick 3: t
pick 4: r
pick 0xffffffffffffffff: t
step 8
is: 5 14 4
turns: 8[] 4[t] 12[] 2[] 10[] 6[r] 14[] 1[s] 9[] 5[] 13[] 3[] 11[] 7[] 15[] 0[]
put u v w
step 99
is: 4 -1 -1
turns: 8[] 4[t] 12[] 2[] 10[] 6[w r] 14[] 1[s] 9[] 5[] 13[] 3[v] 11[] 7[u] 15[] 0[]
scans 3: 6[t w r] 7[s v u] 0[]
turn 13: 3[v]
`, `
is: 2 -1 -1
turns: 2[] 1[] 3[] 0[]
turn 5: 3[]
turn 0xffffffffffffffff: 0[]
scans 1: 0[]
scan 0 0: 0[]
scan 0 -1: 0[]
scan 2 9: 0[]
pick 0: none
pick 7: none
pick 0xffffffffffffffff: none
put a
turns: 2[] 1[] 3[] 0[a]
scans 1: 0[a]
pick 0: a
pick 1: a
pick 0xffffffffffffffff: a
put b c d
is: 2 -1 -1
turns: 2[b] 1[d c] 3[] 0[a]
scans 1: 2[b] 1[d c] 0[a]
scans 2: 1[b d c] 0[a]
scans 3: 1[b d c] 0[a]
scans 4: 0[b d c a]
scans 5: 0[b d c a]
turn 6: 1[d c]
turn 0xfffffffffffffffd: 3[]
scan 1 1: 0[a]
scan 0x8000000000000000 2: 1[b d c]
pick 0: b
pick 1: d
pick 2: c
pick 3: a
pick 4: b
pick 0xffffffffffffffff: a
pick 0x8000000000000000: b
put e
is: 2 0 3
turns: 2[b] 1[d c] 3[e] 0[a]
scans 1: 2[b] 1[d c] 3[e] 0[a]
scans 3: 1[b d c] 0[e a]
turn 4: 2[b]
turn 7: 0[a]
turn 0xffffffffffffffff: 0[a]
pick 3: c
pick 4: a
pick 5: b
pick 9: a
put f
is: 2 1 3
turns: 2[b] 1[d c] 3[e f] 0[a]
scans 2: 1[b d c] 3[e f] 0[a]
scan 6 1: 1[d c]
put g
step 1
put h
is: 3 -1 -1
turns: 4[h b] 2[g] 6[d] 1[c] 5[e f] 3[] 7[] 0[a]
scans 4: 6[h b g d] 0[c e f a]
turn 5: 3[]
pick 8: h
pick 15: a
pick 0xffffffffffffffff: a
put i
is: 3 0 4
turns: 4[h b] 2[i g] 6[d] 1[c] 5[e f] 3[] 7[] 0[a]
scans 3: 2[h b i g] 5[d c e f] 0[a]
scans 100: 0[h b i g d c e f a]
put j k l
is: 3 3 4
turns: 4[b h] 2[i g] 6[d] 1[c] 5[k f e] 3[] 7[] 0[a l j]
scans 1: 4[b h] 2[i g] 6[d] 1[c] 5[k f e] 0[a l j]
turn 9: 5[k f e]
turn 8: 4[b h]
turn 15: 0[a l j]
pick 0: i
pick 5: k
pick 11: j
pick 12: i
pick 0x200000000: l
put m n o p q
step 9
is: 4 9 5
turns: 8[b] 4[n h] 12[g] 2[i] 10[] 6[d] 14[o c] 1[] 9[f e k] 5[p m] 13[] 3[] 11[] 7[] 15[a q l] 0[j]
scans 5: 2[b n h g i] 9[d o c f e k] 15[p m a q l] 0[j]
scan 12 2: 6[i d]
scan 0xf0f0f0f0f0f0f0f3 4: 0[a q l j]
scan 6 0: 14[o c]
scan 6 -3: 14[o c]
scan 0 9223372036854775807: 0[b n h g i d o c f e k p m a q l j]
drop a b c d e f g h i j k l m n o
is: 5 1 4
turns: 8[] 4[] 12[] 2[] 10[] 6[] 14[] 1[] 9[] 5[p] 13[] 3[] 11[] 7[] 15[q] 0[]
scans 1: 5[p] 15[q] 0[]
scans 2: 15[p q] 0[]
drop p
is: 5 2 4
turns: 8[] 4[] 12[] 2[] 10[] 6[] 14[] 1[] 9[] 5[] 13[] 3[] 11[] 7[] 15[q] 0[]
turn 8: 4[]
turn 12: 2[]
turn 7: 15[q]
pick 0: q
pick 1: q
drop q
is: 5 3 4
turns: 8[] 4[] 12[] 2[] 10[] 6[] 14[] 1[] 9[] 5[] 13[] 3[] 11[] 7[] 15[] 0[]
scans 1: 5[] 0[]
scans 2: 0[]
scan 5 -7: 0[]
scan 0xffffffff00000005 0: 0[]
pick 0: none
pick 1: none
pick 0x100000000: none
put r s t
is: 5 6 4
turns: 8[] 4[] 12[] 2[] 10[] 6[t] 14[r] 1[] 9[] 5[] 13[] 3[] 11[] 7[s] 15[] 0[]
scans 2: 14[t r] 0[s]
turn 15: 0[]
pick 0: r
pick 1: t
pick 2: s
pick 3: r
pick 4: t
pick 0xffffffffffffffff: r
step 8
is: 5 14 4
turns: 8[] 4[] 12[] 2[] 10[] 6[t] 14[r] 1[] 9[] 5[] 13[] 3[] 11[] 7[s] 15[] 0[]
put u v w
step 99
is: 4 -1 -1
turns: 8[] 4[] 12[] 2[] 10[] 6[u t] 14[r] 1[] 9[] 5[] 13[v] 3[] 11[] 7[s] 15[] 0[w]
scans 3: 14[u t r] 0[v s w]
turn 13: 3[]
`} {
		follow(t, dict.New[int](seeds[i]), script)
	}
}
