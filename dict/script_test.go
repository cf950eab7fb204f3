package dict_test

import (
	"strconv"
	"strings"
	"testing"

	"mews/dict"
)

// A script is calls, a line each, with what is answered, and how the table stands then: its size, and its places, one behind the other; of a parted table how many are moved, and the size to come, and the new places, too. (`puts` and `drops` are of many keys, of which nothing is held.) The scripts of this file were not worked out by this program.

// key is the key of a word in a script.
func key(t *testing.T, word string) string {
	t.Helper()
	if word == "-" {
		return ""
	}
	s, err := strconv.Unquote(`"` + word + `"`)
	if err != nil {
		t.Fatalf("%q is no key", word)
	}
	return s
}

// follow does what a script says, with a table.
func follow(t *testing.T, table *dict.Table[int], script string) {
	t.Helper()
	values := map[string]int{}
	for i, text := range strings.Split(strings.TrimSpace(script), "\n") {
		call, want, _ := strings.Cut(text, ": ")
		words := strings.Fields(call)
		answer := do(t, table, values, words[0], words[1:], i)
		if got := answer + " " + look(t, table).told(); want != "" && got != want {
			t.Fatalf("line %d, %s: %s; want %s", i+1, call, got, want)
		}
		wantValues(t, table, values)
	}
}

// do does what a line says, and keeps in mind which values there are.
func do(t *testing.T, table *dict.Table[int], values map[string]int, call string, words []string, line int) string {
	t.Helper()
	var answer string
	if call == "step" {
		n, err := strconv.Atoi(words[0])
		if err != nil {
			t.Fatal(err)
		}
		return strconv.Itoa(table.Step(n))
	}
	for _, word := range words {
		k := key(t, word)
		if strings.HasPrefix(call, "put") {
			values[k] = line + 1
			answer = strconv.FormatBool(table.Put(k, line+1))
		} else {
			delete(values, k)
			answer = strconv.FormatBool(table.Drop(k))
		}
	}
	return answer
}

// wantValues holds a table's values against those that it is to have.
func wantValues[V comparable](t *testing.T, table *dict.Table[V], values map[string]V) {
	t.Helper()
	if n := table.Len(); n != len(values) {
		t.Fatalf("Len() = %d; want %d", n, len(values))
	}
	for k, want := range values {
		if v, ok := table.Get(k); !ok || v != want {
			t.Fatalf("Get(%q) = %v, %v; want %v, true", k, v, ok, want)
		}
	}
}

// Letters come, grow the table three times, go, and shrink it: of the three seeds.
func TestP7_1_Letters(t *testing.T) {
	for i, script := range []string{`
put a: true 2[|||a]
put b: true 2[b|||a]
put c: true 2[b||c|a]
put d: true 2[b||d c|a]
put e: true 2[e b||d c|a] 0>3[|||||||]
put f: true 2[||d c|a] 1>3[b e|||||||f]
put g: true 2[||d c|a] 2>3[b e||||||g|f]
put h: true 2[|||a] 3>3[b e||||h||c d g|f]
put i: true 3[b e|||a|i h||c d g|f] 0>4[|||||||||||||||]
put j: true 3[|||a|i h||c d g|f] 1>4[b||||||||j e|||||||]
put k: true 3[|||a|i h||c d g|f] 2>4[b|||||k|||j e|||||||]
put l: true 3[|||a|i h||c d g|f] 3>4[b|||||k|||j e|l||||||]
put m: true 3[||||i h||c d g|f] 4>4[b|||||m k|||j e|l||a||||]
put n: true 3[||||||c d g|f] 5>4[b||||h i|m k|||j e|l||n a||||]
put o: true 3[||||||c d g|f] 6>4[b|||o|h i|m k|||j e|l||n a||||]
put p: true 3[|||||||f] 7>4[b|||o|h i|m k|||j e|l|p|n a|||g d c|]
step 3: 1 4[b|||o|h i|m k||f|j e|l|p|n a|||g d c|]
put a: false 4[b|||o|h i|m k||f|j e|l|p|n a|||g d c|]
drop a: true 4[b|||o|h i|m k||f|j e|l|p|n|||g d c|]
drop z: false 4[b|||o|h i|m k||f|j e|l|p|n|||g d c|]
drop b: true 4[|||o|h i|m k||f|j e|l|p|n|||g d c|]
drop c: true 4[|||o|h i|m k||f|j e|l|p|n|||g d|]
drop d: true 4[|||o|h i|m k||f|j e|l|p|n|||g|]
drop e: true 4[|||o|h i|m k||f|j|l|p|n|||g|]
drop f: true 4[|||o|h i|m k|||j|l|p|n|||g|]
drop g: true 4[|||o|h i|m k|||j|l|p|n||||]
drop h: true 4[|||o|i|m k|||j|l|p|n||||]
drop i: true 4[|||o||m k|||j|l|p|n||||]
drop j: true 4[|||o||m k||||l|p|n||||]
drop k: true 4[|||o||m||||l|p|n||||]
drop l: true 4[|||o||m|||||p|n||||]
drop m: true 4[|||o|||||||p|n||||]
step 2: 0 4[|||o|||||||p|n||||]
drop n: true 4[|||o|||||||p|||||]
drop o: true 4[||||||||||p|||||] 0>3[|||||||]
drop p: true 4[|||||||||||||||] 1>3[|||||||]
step 16: 15 3[|||||||]
`, `
put a: true 2[a|||]
put b: true 2[a||b|]
put c: true 2[c a||b|]
put d: true 2[d c a||b|]
put e: true 2[d c a||e b|] 0>3[|||||||]
put f: true 2[||e b|] 1>3[c d||||a||f|]
put g: true 2[||e b|] 2>3[c d||||a||f|g]
put h: true 2[|||] 3>3[c d||||h a||b e f|g]
put i: true 3[c d||||i h a||b e f|g] 0>4[|||||||||||||||]
put j: true 3[||||i h a||b e f|g] 1>4[c|||||j|||d|||||||]
put k: true 3[||||i h a||b e f|g] 2>4[c|||||j|||k d|||||||]
put l: true 3[||||i h a||b e f|g] 3>4[c|||||l j|||k d|||||||]
put m: true 3[||||i h a||b e f|g] 4>4[c|||||l j|||k d|m||||||]
put n: true 3[||||||b e f|g] 5>4[c|||n|a h i|l j|||k d|m||||||]
put o: true 3[||||||b e f|g] 6>4[c|||n|a h i|l j|||k d|m||o||||]
put p: true 3[|||||||g] 7>4[c|||n|a h i|l j|||k d|m||o|p||f e b|]
step 3: 1 4[c|||n|a h i|l j||g|k d|m||o|p||f e b|]
put a: false 4[c|||n|a h i|l j||g|k d|m||o|p||f e b|]
drop a: true 4[c|||n|h i|l j||g|k d|m||o|p||f e b|]
drop z: false 4[c|||n|h i|l j||g|k d|m||o|p||f e b|]
drop b: true 4[c|||n|h i|l j||g|k d|m||o|p||f e|]
drop c: true 4[|||n|h i|l j||g|k d|m||o|p||f e|]
drop d: true 4[|||n|h i|l j||g|k|m||o|p||f e|]
drop e: true 4[|||n|h i|l j||g|k|m||o|p||f|]
drop f: true 4[|||n|h i|l j||g|k|m||o|p|||]
drop g: true 4[|||n|h i|l j|||k|m||o|p|||]
drop h: true 4[|||n|i|l j|||k|m||o|p|||]
drop i: true 4[|||n||l j|||k|m||o|p|||]
drop j: true 4[|||n||l|||k|m||o|p|||]
drop k: true 4[|||n||l||||m||o|p|||]
drop l: true 4[|||n||||||m||o|p|||]
drop m: true 4[|||n||||||||o|p|||]
step 2: 0 4[|||n||||||||o|p|||]
drop n: true 4[|||||||||||o|p|||]
drop o: true 4[||||||||||||p|||] 0>3[|||||||]
drop p: true 4[|||||||||||||||] 1>3[|||||||]
step 16: 15 3[|||||||]
`, `
put a: true 2[|||a]
put b: true 2[b|||a]
put c: true 2[b||c|a]
put d: true 2[b||d c|a]
put e: true 2[b|e|d c|a] 0>3[|||||||]
put f: true 2[|e|d c|a] 1>3[b|f||||||]
put g: true 2[||d c|a] 2>3[b|e f|||g|||]
put h: true 2[|||a] 3>3[h b|e f|d||g||c|]
put i: true 3[h b|e f|d||i g||c|a] 0>4[|||||||||||||||]
put j: true 3[|e f|d||i g||c|a] 1>4[b||||||||h|||||||j]
put k: true 3[||d||i g||c|a] 2>4[b|k f e|||||||h|||||||j]
put l: true 3[||||i g||c|a] 3>4[b|k f e||||||l|h||d|||||j]
put m: true 3[||||i g||c|a] 4>4[b|k f e||||||l|h|m|d|||||j]
put n: true 3[||||||c|a] 5>4[b|k f e|||g|||l|n h|m|d||i|||j]
put o: true 3[||||||c|a] 6>4[b|k f e|||g||o|l|n h|m|d||i|||j]
put p: true 3[|||||||a] 7>4[b|k f e|||g||c o|l|n h|p m|d||i|||j]
step 3: 1 4[b|k f e|||g||c o|a l|n h|p m|d||i|||j]
put a: false 4[b|k f e|||g||c o|a l|n h|p m|d||i|||j]
drop a: true 4[b|k f e|||g||c o|l|n h|p m|d||i|||j]
drop z: false 4[b|k f e|||g||c o|l|n h|p m|d||i|||j]
drop b: true 4[|k f e|||g||c o|l|n h|p m|d||i|||j]
drop c: true 4[|k f e|||g||o|l|n h|p m|d||i|||j]
drop d: true 4[|k f e|||g||o|l|n h|p m|||i|||j]
drop e: true 4[|k f|||g||o|l|n h|p m|||i|||j]
drop f: true 4[|k|||g||o|l|n h|p m|||i|||j]
drop g: true 4[|k|||||o|l|n h|p m|||i|||j]
drop h: true 4[|k|||||o|l|n|p m|||i|||j]
drop i: true 4[|k|||||o|l|n|p m||||||j]
drop j: true 4[|k|||||o|l|n|p m||||||]
drop k: true 4[||||||o|l|n|p m||||||]
drop l: true 4[||||||o||n|p m||||||]
drop m: true 4[||||||o||n|p||||||]
step 2: 0 4[||||||o||n|p||||||]
drop n: true 4[||||||o|||p||||||]
drop o: true 4[|||||||||p||||||] 0>3[|||||||]
drop p: true 4[|||||||||||||||] 1>3[|||||||]
step 16: 15 3[|||||||]
`} {
		follow(t, dict.New[int](seeds[i]), script)
	}
}

func TestP7_1_TheEmptyKeyAndOddBytes(t *testing.T) {
	for i, script := range []string{`
put -: true 2[||-|]
put \x00: true 2[||-|\x00]
put \x7f: true 2[||-|\x7f \x00]
put \x80: true 2[|\x80|-|\x7f \x00]
put \xff: true 2[|\x80|-|\xff \x7f \x00] 0>3[|||||||]
put \x00\x00: true 2[|\x80|-|\xff \x7f \x00] 1>3[|||||\x00\x00||]
put \xff\x80\x7f\x00: true 2[||-|\xff \x7f \x00] 2>3[|\x80||||\x00\x00|\xff\x80\x7f\x00|]
put \x80: false 2[|||\xff \x7f \x00] 3>3[|\x80||||\x00\x00|- \xff\x80\x7f\x00|]
put -: false 3[|\x80||\x00||\x00\x00|- \xff\x80\x7f\x00|\x7f \xff]
drop \xff: true 3[|\x80||\x00||\x00\x00|- \xff\x80\x7f\x00|\x7f]
drop \x00\x00\x00: false 3[|\x80||\x00||\x00\x00|- \xff\x80\x7f\x00|\x7f]
drop -: true 3[|\x80||\x00||\x00\x00|\xff\x80\x7f\x00|\x7f]
drop \x00: true 3[|\x80||||\x00\x00|\xff\x80\x7f\x00|\x7f]
`, `
put -: true 2[|-||]
put \x00: true 2[\x00|-||]
put \x7f: true 2[\x00|-|\x7f|]
put \x80: true 2[\x00|\x80 -|\x7f|]
put \xff: true 2[\xff \x00|\x80 -|\x7f|] 0>3[|||||||]
put \x00\x00: true 2[|\x80 -|\x7f|] 1>3[||||\x00 \xff||\x00\x00|]
put \xff\x80\x7f\x00: true 2[||\x7f|] 2>3[||||\xff\x80\x7f\x00 \x00 \xff|- \x80|\x00\x00|]
put \x80: false 2[|||] 3>3[||\x7f||\xff\x80\x7f\x00 \x00 \xff|- \x80|\x00\x00|]
put -: false 3[||\x7f||\xff\x80\x7f\x00 \x00 \xff|- \x80|\x00\x00|]
drop \xff: true 3[||\x7f||\xff\x80\x7f\x00 \x00|- \x80|\x00\x00|]
drop \x00\x00\x00: false 3[||\x7f||\xff\x80\x7f\x00 \x00|- \x80|\x00\x00|]
drop -: true 3[||\x7f||\xff\x80\x7f\x00 \x00|\x80|\x00\x00|]
drop \x00: true 3[||\x7f||\xff\x80\x7f\x00|\x80|\x00\x00|]
`, `
put -: true 2[-|||]
put \x00: true 2[-||\x00|]
put \x7f: true 2[\x7f -||\x00|]
put \x80: true 2[\x7f -||\x00|\x80]
put \xff: true 2[\x7f -||\xff \x00|\x80] 0>3[|||||||]
put \x00\x00: true 2[||\xff \x00|\x80] 1>3[||\x00\x00||- \x7f|||]
put \xff\x80\x7f\x00: true 2[||\xff \x00|\x80] 2>3[||\x00\x00||- \x7f||\xff\x80\x7f\x00|]
put \x80: false 2[|||\x80] 3>3[||\x00\x00||- \x7f||\x00 \xff \xff\x80\x7f\x00|]
put -: false 3[||\x00\x00||- \x7f||\x00 \xff \xff\x80\x7f\x00|\x80]
drop \xff: true 3[||\x00\x00||- \x7f||\x00 \xff\x80\x7f\x00|\x80]
drop \x00\x00\x00: false 3[||\x00\x00||- \x7f||\x00 \xff\x80\x7f\x00|\x80]
drop -: true 3[||\x00\x00||\x7f||\x00 \xff\x80\x7f\x00|\x80]
drop \x00: true 3[||\x00\x00||\x7f||\xff\x80\x7f\x00|\x80]
`} {
		follow(t, dict.New[int](seeds[i]), script)
	}
}

// A key that is put anew keeps its place: in a table that is not parted, at an old place, and at a new one; what the step within that call moves goes all the same.
func TestP7_1_PutAnew(t *testing.T) {
	follow(t, dict.New[int](0), `
puts a b c d
put d: false 2[b||d c|a]
put c: false 2[b||d c|a]
put b: false 2[b||d c|a]
put a: false 2[b||d c|a]
put e: true 2[e b||d c|a] 0>3[|||||||]
put e: false 2[||d c|a] 1>3[b e|||||||]
put c: false 2[||d c|a] 2>3[b e|||||||]
put a: false 2[|||a] 3>3[b e||||||c d|]
put b: false 3[b e|||a|||c d|]
put e: false 3[b e|||a|||c d|]
`)
}

func TestP7_1_DropOfAParted(t *testing.T) {
	follow(t, dict.New[int](0), `
puts a b c d e
drop d: true 2[||c|a] 1>3[b e|||||||]
drop b: true 2[||c|a] 2>3[e|||||||]
drop a: true 2[|||] 3>3[e||||||c|]
drop q: false 3[e||||||c|]
drop q: false 3[e||||||c|]
`)
	follow(t, dict.New[int](0), `
puts a b c d e f g
drop q: false 2[|||a] 3>3[b e||||||c d g|f]
drop d: true 3[b e|||a|||c g|f]
`)
}

// The step within a call may end the parting; then the table may grow, or shrink, within the same call.
func TestP7_1_AStepThatEndsTheParting(t *testing.T) {
	follow(t, dict.New[int](0), `
puts a b c d e f g h
put i: true 3[b e|||a|i h||c d g|f] 0>4[|||||||||||||||]
put i: false 3[|||a|i h||c d g|f] 1>4[b||||||||e|||||||]
put j: true 3[|||a|i h||c d g|f] 2>4[b||||||||j e|||||||]
`)
	follow(t, dict.New[int](0), `
puts a b c d e f g h i
drops a b c d e f g
drop h: true 4[||||i|||||||||||] 0>3[|||||||]
drop i: true 4[|||||||||||||||] 1>3[|||||||]
drop i: false 4[|||||||||||||||] 2>3[|||||||]
`)
}

// A table may have more keys than places, if a step ended its shrinking: it grows when the next key comes, not ahead of that.
func TestP7_1_ItGrowsWhenAKeyComes(t *testing.T) {
	follow(t, dict.New[int](0), `
puts a b c d e f g h i
step 8
drops a b c d e f g h i
step 16
put a: true 3[|||a||||]
drop a: true 3[|||||||] 0>2[|||]
put a: true 3[|||||||] 1>2[|||a]
put b: true 3[|||||||] 2>2[b|||a]
put c: true 3[|||||||] 3>2[b||c|a]
put d: true 3[|||||||] 4>2[b||d c|a]
put e: true 3[|||||||] 5>2[e b||d c|a]
put f: true 3[|||||||] 6>2[e b||d c|f a]
put g: true 3[|||||||] 7>2[e b||g d c|f a]
step 1: 1 2[e b||g d c|f a]
step 1: 0 2[e b||g d c|f a]
put a: false 2[e b||g d c|f a]
put g: false 2[e b||g d c|f a]
put f: false 2[e b||g d c|f a]
drop q: false 2[e b||g d c|f a]
drop a: true 2[e b||g d c|f]
step 5: 0 2[e b||g d c|f]
put b: false 2[e b||g d c|f]
put h: true 2[h e b||g d c|f] 0>3[|||||||]
put i: true 2[||g d c|f] 1>3[b e||||i h|||]
`)
}

// A table may have too few keys for its places, if a step ended its growing: it shrinks when the next key goes, not ahead of that.
func TestP7_1_ItShrinksWhenAKeyGoes(t *testing.T) {
	follow(t, dict.New[int](0), `
puts a b c d e f g h i j k l m n o p q
drops a b c d e f g h i j k l m n
drop o: true 4[|||||||||||||||] 15>5[||||||||||p||||||||||||||||||q|||]
step 1: 1 5[||||||||||p||||||||||||||||||q|||]
drop z: false 5[||||||||||p||||||||||||||||||q|||]
put p: false 5[||||||||||p||||||||||||||||||q|||]
put a: true 5[||||||||||p|||||||||||||||||a|q|||]
step 9: 0 5[||||||||||p|||||||||||||||||a|q|||]
drop z: false 5[||||||||||p|||||||||||||||||a|q|||]
drop a: true 5[||||||||||p||||||||||||||||||q|||] 0>4[|||||||||||||||]
`)
}
