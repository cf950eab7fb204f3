package parse_test

import (
	"fmt"
	"math"
	"math/big"
	"regexp"
	"slices"
	"strings"
	"testing"

	"mews/api"
	"mews/line"
	"mews/parse"
)

// wide are the greatest limits, tight are some that few bytes are above.
var (
	wide  = api.Limits{Args: api.MaxArgs, Bulk: api.MaxBulk, Line: api.MaxLine}
	tight = api.Limits{Args: 3, Bulk: 12, Line: 20}
)

// fed is what Feed answers.
type fed struct {
	in    api.Input
	whole []api.Request
	e     api.Errno
}

// request is one of so many bytes.
func request(size int, args ...string) api.Request { return api.Request{Args: args, Size: size} }

// left is what Feed answers, if there is no fault.
func left(in api.Input, whole ...api.Request) fed { return fed{in, whole, api.OK} }

// got is what Feed answers, if nothing is left.
func got(whole ...api.Request) fed { return left(api.Input{}, whole...) }

// dead is what Feed answers, if there is a fault.
func dead(e api.Errno, whole ...api.Request) fed { return fed{api.Input{Dead: e}, whole, e} }

// sameInput tells whether two are one another field by field, whether a list that has nothing is nil or not.
func sameInput(a, b api.Input) bool {
	return a.Rest == b.Rest && slices.Equal(a.Args, b.Args) && a.Left == b.Left && a.Size == b.Size && a.Body == b.Body && a.Need == b.Need && a.Dead == b.Dead
}

func sameRequest(a, b api.Request) bool { return a.Size == b.Size && slices.Equal(a.Args, b.Args) }

func same(a, b fed) bool {
	return sameInput(a.in, b.in) && slices.EqualFunc(a.whole, b.whole, sameRequest) && a.e == b.e
}

// told is what Feed answers, or as much of it as there is any use in telling.
func told(x fed) string {
	in := x.in
	var whole []string
	for _, r := range x.whole[:min(len(x.whole), 5)] {
		whole = append(whole, fmt.Sprintf("%s of %d bytes", short(r.Args), r.Size))
	}
	return fmt.Sprintf("{Rest %.60q of %d, Args %s, Left %d, Size %d, Body %v, Need %d, Dead %d}, %d requests %s, %d",
		in.Rest, len(in.Rest), short(in.Args), in.Left, in.Size, in.Body, in.Need, in.Dead, len(x.whole), whole, x.e)
}

// short tells a list, but not a very long one's whole text.
func short(l []string) string {
	s := fmt.Sprintf("%d %.20q", len(l), l[:min(len(l), 8)])
	return s[:min(len(s), 200)]
}

func feed(in api.Input, b string, l api.Limits) fed {
	var x fed
	x.in, x.whole, x.e = parse.Feed(in, b, l)
	return x
}

// feedPieces feeds one piece behind the other, from nothing on.
func feedPieces(l api.Limits, pieces ...string) fed {
	var all fed
	for _, b := range pieces {
		x := feed(all.in, b, l)
		all = fed{x.in, append(all.whole, x.whole...), x.e}
	}
	return all
}

// chunks are the pieces of so many bytes.
func chunks(s string, size int) []string {
	var l []string
	for s != "" {
		n := min(size, len(s))
		l = append(l, s[:n])
		s = s[n:]
	}
	return l
}

// bytewise are the pieces of one byte, but of a text that is very long some greater ones.
func bytewise(s string) []string {
	if len(s) > 1<<14 {
		return append(chunks(s[:len(s)-9], 4099), chunks(s[len(s)-9:], 1)...)
	}
	return chunks(s, 1)
}

// endOnFault keeps those who go through very many texts from telling all that is wrong.
func endOnFault(t *testing.T) {
	t.Helper()
	if t.Failed() {
		t.FailNow()
	}
}

// wantFed tells whether a text, at once and byte by byte, is read as it is to be.
func wantFed(t *testing.T, l api.Limits, s string, want fed) {
	t.Helper()
	if x := feed(api.Input{}, s, l); !same(x, want) {
		t.Errorf("%+v: Feed(%.80q) = %s; want %s", l, s, told(x), told(want))
	}
	if x := feedPieces(l, bytewise(s)...); !same(x, want) {
		t.Errorf("%+v: Feed(%.80q), byte by byte, = %s; want %s", l, s, told(x), told(want))
	}
}

// wantFault tells whether the last byte of a text is its first fault: with none ahead of it, and whatever stands behind.
func wantFault(t *testing.T, l api.Limits, e api.Errno, s string, whole ...api.Request) {
	t.Helper()
	if x := feed(api.Input{}, s[:len(s)-1], l); x.e != api.OK || x.in.Dead != api.OK {
		t.Errorf("%+v: Feed(%.80q), without its last byte, = %s; want no fault", l, s, told(x))
	}
	for _, behind := range []string{"", "\r", "\n", "\r\n", "a", "0", "9999999999999999999999", "\"", "*1\r\n$4\r\nPING\r\n", "\nPING\r\n", "\x00\xff"} {
		wantFed(t, l, s+behind, dead(e, whole...))
	}
}

// headOf is a beginning of a Many's, or an argument's, first line.
var headOf = regexp.MustCompile(`\A[*$](?:(0|[1-9][0-9]*)(?:\r\n?)?)?\z`)

// meantHead reads such a line as the document's words say it: its number, and how many bytes it has (0: it is not whole), or its fault.
func meantHead(s string, sign byte, most int, above api.Errno) (int, int, api.Errno) {
	for i := range len(s) {
		parts := headOf.FindStringSubmatch(s[:i+1])
		if s[0] != sign || parts == nil {
			return 0, 0, api.ErrForm
		}
		n, _ := new(big.Int).SetString("0"+parts[1], 10)
		if n.Cmp(big.NewInt(int64(most))) > 0 {
			return 0, 0, above
		}
		if s[i] == '\n' {
			return int(n.Int64()), i + 1, api.OK
		}
	}
	return 0, 0, api.OK
}

// meantMany reads a Many as the document's words say it: its arguments, and how many bytes it has (0: it is not whole, and the Input is what there is of it), or its fault.
func meantMany(s string, l api.Limits) ([]string, int, api.Input, api.Errno) {
	count, size, e := meantHead(s, '*', l.Args, api.ErrMany)
	if size == 0 {
		return nil, 0, api.Input{Rest: s}, e
	}
	var args []string
	for i := range count {
		need, n, e := meantHead(s[size:], '$', l.Bulk, api.ErrLong)
		if n == 0 {
			return nil, 0, api.Input{Rest: s[size:], Args: args, Left: count - i, Size: size}, e
		}
		size += n
		body := s[size:]
		for j := range min(2, len(body)-need) {
			if body[need+j] != "\r\n"[j] {
				return nil, 0, api.Input{}, api.ErrForm
			}
		}
		if len(body) < need+2 {
			return nil, 0, api.Input{Rest: body, Args: args, Left: count - i, Size: size, Body: true, Need: need}, api.OK
		}
		args = append(args, body[:need])
		size += need + 2
	}
	return args, size, api.Input{}, api.OK
}

// meantLine reads a line likewise.
func meantLine(s string, l api.Limits) ([]string, int, api.Input, api.Errno) {
	ahead, _, whole := strings.Cut(s, "\n")
	args, right := line.Split(strings.TrimSuffix(ahead, "\r"))
	switch {
	case len(ahead) > l.Line:
		return nil, 0, api.Input{}, api.ErrLong
	case !whole:
		return nil, 0, api.Input{Rest: s}, api.OK
	case !right:
		return nil, 0, api.Input{}, api.ErrQuote
	case len(args) > l.Args:
		return nil, 0, api.Input{}, api.ErrMany
	}
	for _, arg := range args {
		if len(arg) > l.Bulk {
			return nil, 0, api.Input{}, api.ErrLong
		}
	}
	return args, len(ahead) + 1, api.Input{}, api.OK
}

// meant is what Feed is to answer to a text, from nothing on, with limits that stand for themselves.
func meant(s string, l api.Limits) fed {
	var whole []api.Request
	for s != "" {
		next := meantLine
		if s[0] == '*' {
			next = meantMany
		}
		args, size, in, e := next(s, l)
		if e != api.OK {
			return dead(e, whole...)
		}
		if size == 0 {
			return left(in, whole...)
		}
		if len(args) > 0 {
			whole = append(whole, request(size, args...))
		}
		s = s[size:]
	}
	return got(whole...)
}

// bytesOf are a Many's bytes, as the document's words tell them.
func bytesOf(args []string) string {
	var b strings.Builder
	fmt.Fprintf(&b, "*%d\r\n", len(args))
	for _, arg := range args {
		fmt.Fprintf(&b, "$%d\r\n%s\r\n", len(arg), arg)
	}
	return b.String()
}

// texts are all of up to so many bytes, made of an alphabet.
func texts(alphabet string, most int) []string {
	all := []string{""}
	last := all
	for range most {
		var next []string
		for _, s := range last {
			for i := range len(alphabet) {
				next = append(next, s+alphabet[i:i+1])
			}
		}
		all = append(all, next...)
		last = next
	}
	return all
}

// eachByte are the 256 texts of one byte.
func eachByte() []string {
	var l []string
	for c := range 256 {
		l = append(l, string([]byte{byte(c)}))
	}
	return l
}

// allBytes is the text of all bytes, rising.
func allBytes() string { return strings.Join(eachByte(), "") }

// rolled gives numbers without a pattern to them, the same ones each time.
func rolled(seed uint64) func(below int) int {
	return func(below int) int {
		seed = seed*6364136223846793005 + 1442695040888963407
		return int(seed>>33) % below
	}
}

// rolledText is a text of fewer than so many bytes of an alphabet.
func rolledText(roll func(int) int, alphabet string, most int) string {
	b := make([]byte, roll(most))
	for i := range b {
		b[i] = alphabet[roll(len(alphabet))]
	}
	return string(b)
}

// rolledArgs are fewer than so many texts.
func rolledArgs(roll func(int) int, alphabet string, most int) []string {
	l := make([]string, roll(most))
	for i := range l {
		l[i] = rolledText(roll, alphabet, 2*most)
	}
	return l
}

// rolledPieces cuts a text at places without a pattern to them; some pieces have nothing.
func rolledPieces(roll func(int) int, s string) []string {
	var l []string
	for s != "" {
		n := min(roll(12), len(s))
		l = append(l, s[:n])
		s = s[n:]
	}
	return append(l, "")
}

// rolledCame is what may come: Manys and lines, some of them with a byte turned, some cut off.
func rolledCame(roll func(int) int) string {
	var b strings.Builder
	for range roll(6) {
		var s string
		switch roll(4) {
		case 0:
			s = rolledText(roll, "ab \t\"'\\x4\r*", 24) + "\n"
		case 1:
			s = line.Join(rolledArgs(roll, "ab \"\r\n", 4)...) + "\r\n"
		default:
			s = bytesOf(rolledArgs(roll, "ab\r\n*$1", 5))
		}
		if roll(8) == 0 {
			at := roll(len(s))
			s = s[:at] + rolledText(roll, "*$0123-\r\na", 3) + s[min(at+roll(2), len(s)):]
		}
		b.WriteString(s)
	}
	return b.String()[:b.Len()-min(roll(20), b.Len())]
}

func TestP5_1_LimitsStandForWhatMayBe(t *testing.T) {
	for _, x := range []struct{ l, want api.Limits }{
		{api.Limits{}, api.Limits{Args: 1, Bulk: 1, Line: 1}},
		{api.Limits{Args: 1, Bulk: 1, Line: 1}, api.Limits{Args: 1, Bulk: 1, Line: 1}},
		{api.Limits{Args: 2, Bulk: 3, Line: 4}, api.Limits{Args: 2, Bulk: 3, Line: 4}},
		{api.Limits{Args: -1, Bulk: -2, Line: -3}, api.Limits{Args: 1, Bulk: 1, Line: 1}},
		{api.Limits{Args: 16, Bulk: 1024, Line: 2048}, api.Limits{Args: 16, Bulk: 1024, Line: 2048}},
		{api.Limits{Args: 65536, Bulk: 1048576, Line: 65536}, api.Limits{Args: 65536, Bulk: 1048576, Line: 65536}},
		{api.Limits{Args: 65537, Bulk: 1048577, Line: 65537}, api.Limits{Args: 65536, Bulk: 1048576, Line: 65536}},
		{api.Limits{Args: 65535, Bulk: 1048575, Line: 65535}, api.Limits{Args: 65535, Bulk: 1048575, Line: 65535}},
		{api.Limits{Args: math.MaxInt, Bulk: math.MaxInt, Line: math.MaxInt}, wide},
		{api.Limits{Args: math.MinInt, Bulk: math.MinInt, Line: math.MinInt}, api.Limits{Args: 1, Bulk: 1, Line: 1}},
	} {
		if l := parse.Limits(x.l); l != x.want {
			t.Errorf("Limits(%+v) = %+v; want %+v", x.l, l, x.want)
		}
	}
}

func TestP5_1_EachLimitIsItsOwn(t *testing.T) {
	numbers := []struct{ n, args, bulk, line int }{
		{math.MinInt, 1, 1, 1}, {-1 << 32, 1, 1, 1}, {-1, 1, 1, 1}, {0, 1, 1, 1}, {1, 1, 1, 1}, {2, 2, 2, 2}, {1000, 1000, 1000, 1000},
		{1<<16 - 1, 1<<16 - 1, 1<<16 - 1, 1<<16 - 1}, {1 << 16, 1 << 16, 1 << 16, 1 << 16}, {1<<16 + 1, 1 << 16, 1<<16 + 1, 1 << 16},
		{1<<20 - 1, 1 << 16, 1<<20 - 1, 1 << 16}, {1 << 20, 1 << 16, 1 << 20, 1 << 16}, {1<<20 + 1, 1 << 16, 1 << 20, 1 << 16},
		{1<<32 + 5, 1 << 16, 1 << 20, 1 << 16}, {math.MaxInt, 1 << 16, 1 << 20, 1 << 16},
	}
	for _, a := range numbers {
		for _, b := range numbers {
			for _, c := range numbers {
				want := api.Limits{Args: a.args, Bulk: b.bulk, Line: c.line}
				if l := parse.Limits(api.Limits{Args: a.n, Bulk: b.n, Line: c.n}); l != want {
					t.Errorf("Limits(%d, %d, %d) = %+v; want %+v", a.n, b.n, c.n, l, want)
				}
			}
		}
	}
}

// Feed takes the limits as what they stand for.
func TestP5_1_FeedWithLimitsThatMayNotBe(t *testing.T) {
	roll := rolled(1)
	for _, l := range []api.Limits{{}, {Args: -1, Bulk: -5, Line: 0}, {Args: math.MinInt, Bulk: math.MinInt, Line: math.MinInt}, {Args: math.MaxInt, Bulk: math.MaxInt, Line: math.MaxInt}, {Args: 65537, Bulk: 1048577, Line: 65537}, {Bulk: 4, Line: 100}, {Args: 4, Line: 100}, {Args: 4, Bulk: 4}} {
		for _, s := range []string{"", "a", "ab", "\n", "a\n", "a\r\n", "ab\n", "*0\r\n", "*1\r\n$1\r\na\r\n", "*2", "*1\r\n$2", "*1\r\n$0\r\n\r\n", "*65537", "*1\r\n$1048577", "a a", "a a\n", strings.Repeat("a", 65537)} {
			wantFed(t, l, s, meant(s, parse.Limits(l)))
		}
		for range 2000 {
			s := rolledCame(roll)
			wantFed(t, l, s, meant(s, parse.Limits(l)))
			endOnFault(t)
		}
	}
}

func TestP5_2_Nothing(t *testing.T) {
	for _, l := range []api.Limits{{}, tight, wide} {
		wantFed(t, l, "", got())
		if x := feedPieces(l, "", "", ""); !same(x, got()) {
			t.Errorf("Feed of nothing, again and again, = %s", told(x))
		}
	}
}

func TestP5_2_Manys(t *testing.T) {
	for _, x := range []struct {
		s    string
		want fed
	}{
		{"*0\r\n", got()},
		{"*0\r\n*0\r\n*0\r\n", got()},
		{"*1\r\n$4\r\nPING\r\n", got(request(14, "PING"))},
		{"*1\r\n$0\r\n\r\n", got(request(10, ""))},
		{"*1\r\n$1\r\na\r\n", got(request(11, "a"))},
		{"*2\r\n$3\r\nGET\r\n$1\r\na\r\n", got(request(20, "GET", "a"))},
		{"*3\r\n$3\r\nSET\r\n$1\r\na\r\n$2\r\nbc\r\n", got(request(28, "SET", "a", "bc"))},
		{"*3\r\n$0\r\n\r\n$0\r\n\r\n$0\r\n\r\n", got(request(22, "", "", ""))},
		{"*2\r\n$0\r\n\r\n$1\r\na\r\n", got(request(17, "", "a"))},
		{"*10\r\n" + strings.Repeat("$10\r\n0123456789\r\n", 10), got(request(175, slices.Repeat([]string{"0123456789"}, 10)...))},
		// What stands in an argument is no line's end, and nothing else either.
		{"*1\r\n$2\r\n\r\n\r\n", got(request(12, "\r\n"))},
		{"*1\r\n$1\r\n\n\r\n", got(request(11, "\n"))},
		{"*1\r\n$1\r\n\r\r\n", got(request(11, "\r"))},
		{"*1\r\n$4\r\n*1\r\n\r\n", got(request(14, "*1\r\n"))},
		{"*1\r\n$6\r\n$1\r\na\r\r\n", got(request(16, "$1\r\na\r"))},
		{"*2\r\n$4\r\n\"a b\r\n$3\r\n\\ '\r\n", got(request(23, "\"a b", "\\ '"))},
		{"*1\r\n$3\r\n\x00\xff\x80\r\n", got(request(13, "\x00\xff\x80"))},
		{"*1\r\n$256\r\n" + allBytes() + "\r\n", got(request(268, allBytes()))},
		{"*0\r\n*1\r\n$1\r\na\r\n*0\r\n", got(request(11, "a"))},
		{"*1\r\n$1\r\na\r\n*2\r\n$1\r\nb\r\n$0\r\n\r\n*1\r\n$0\r\n\r\n", got(request(11, "a"), request(17, "b", ""), request(10, ""))},
	} {
		wantFed(t, wide, x.s, x.want)
	}
}

func TestP5_2_Lines(t *testing.T) {
	for _, x := range []struct {
		s    string
		want fed
	}{
		{"\n", got()},
		{"\r\n", got()},
		{" \n", got()},
		{"\t\r\n", got()},
		{" \t  \t\t\r\n", got()},
		{"\n\r\n\n \n", got()},
		{"PING\n", got(request(5, "PING"))},
		{"PING\r\n", got(request(6, "PING"))},
		{"GET a\r\n", got(request(7, "GET", "a"))},
		{"  GET\t a  \n", got(request(11, "GET", "a"))},
		{"SET a\"b c\" ''\r\n", got(request(15, "SET", "ab c", ""))},
		{"''\n", got(request(3, ""))},
		{"\"\" ''\r\n", got(request(7, "", ""))},
		{"\"\\n\\x0a\"\n", got(request(9, "\n\n"))},
		// A byte 13 counts, but just ahead of the byte 10.
		{"a\rb\n", got(request(4, "a\rb"))},
		{"a\rb\r\n", got(request(5, "a\rb"))},
		{"\ra\r\n", got(request(4, "\ra"))},
		{"a\r\r\n", got(request(4, "a\r"))},
		{"\r\r\n", got(request(3, "\r"))},
		{"\r \n", got(request(3, "\r"))},
		{"a \r\n", got(request(4, "a"))},
		{"a \r\r\n", got(request(5, "a", "\r"))},
		{"'a\r'\r\n", got(request(6, "a\r"))},
		{"\"a\"\r\n", got(request(5, "a"))},
		// Behind the first byte a `*` and a `$` are none that count.
		{" *1\r\n", got(request(5, "*1"))},
		{"a*1\r\n", got(request(5, "a*1"))},
		{"$4\r\nPING\r\n", got(request(4, "$4"), request(6, "PING"))},
		{"$\n+\n-\n:\n", got(request(2, "$"), request(2, "+"), request(2, "-"), request(2, ":"))},
		{"\x00\n", got(request(2, "\x00"))},
		{"\xff\x80\v\f\n", got(request(5, "\xff\x80\v\f"))},
		{"PING\r", left(api.Input{Rest: "PING\r"})},
		{"\r", left(api.Input{Rest: "\r"})},
		{" ", left(api.Input{Rest: " "})},
		{"\"a", left(api.Input{Rest: "\"a"})},
		{"\"a\"b", left(api.Input{Rest: "\"a\"b"})},
	} {
		wantFed(t, wide, x.s, x.want)
	}
}

func TestP5_2_RequestsOneBehindTheOther(t *testing.T) {
	many, first, second := "*2\r\n$3\r\nGET\r\n$1\r\nb\r\n", "PING\r\n", "GET a\n"
	asMany, asFirst, asSecond := request(20, "GET", "b"), request(6, "PING"), request(6, "GET", "a")
	for _, x := range []struct {
		s    string
		want fed
	}{
		{many + first, got(asMany, asFirst)},
		{first + many, got(asFirst, asMany)},
		{many + many, got(asMany, asMany)},
		{first + second, got(asFirst, asSecond)},
		{first + many + second + many + many, got(asFirst, asMany, asSecond, asMany, asMany)},
		{many + "\r\n" + first + "*0\r\n" + many, got(asMany, asFirst, asMany)},
		{"*0\r\n\n" + many + "\n*0\r\n", got(asMany)},
		{many + "*", left(api.Input{Rest: "*"}, asMany)},
		{many + "P", left(api.Input{Rest: "P"}, asMany)},
		{first + "*1\r\n", left(api.Input{Left: 1, Size: 4}, asFirst)},
		{first + many + "*2\r\n$1\r\nx\r\n$3\r\nab", left(api.Input{Rest: "ab", Args: []string{"x"}, Left: 1, Size: 15, Body: true, Need: 3}, asFirst, asMany)},
	} {
		wantFed(t, wide, x.s, x.want)
	}
	var all []api.Request
	for range 50000 {
		all = append(all, asMany, asFirst, asSecond)
	}
	s := strings.Repeat(many+first+second, 50000)
	wantFed(t, wide, s, got(all...))
	wantFed(t, wide, s+"*", left(api.Input{Rest: "*"}, all...))
}

// What is left behind each byte of a Many.
func TestP5_2_AManyCutOffBehindEachByte(t *testing.T) {
	s := "*2\r\n$11\r\nab\r\ncdefghi\r\n$0\r\n\r\n"
	ab := []string{"ab\r\ncdefghi"}
	for size, want := range []api.Input{
		{},
		{Rest: "*"},
		{Rest: "*2"},
		{Rest: "*2\r"},
		{Left: 2, Size: 4},
		{Left: 2, Size: 4, Rest: "$"},
		{Left: 2, Size: 4, Rest: "$1"},
		{Left: 2, Size: 4, Rest: "$11"},
		{Left: 2, Size: 4, Rest: "$11\r"},
		{Left: 2, Size: 9, Body: true, Need: 11},
		{Left: 2, Size: 9, Body: true, Need: 11, Rest: "a"},
		{Left: 2, Size: 9, Body: true, Need: 11, Rest: "ab"},
		{Left: 2, Size: 9, Body: true, Need: 11, Rest: "ab\r"},
		{Left: 2, Size: 9, Body: true, Need: 11, Rest: "ab\r\n"},
		{Left: 2, Size: 9, Body: true, Need: 11, Rest: "ab\r\nc"},
		{Left: 2, Size: 9, Body: true, Need: 11, Rest: "ab\r\ncd"},
		{Left: 2, Size: 9, Body: true, Need: 11, Rest: "ab\r\ncde"},
		{Left: 2, Size: 9, Body: true, Need: 11, Rest: "ab\r\ncdef"},
		{Left: 2, Size: 9, Body: true, Need: 11, Rest: "ab\r\ncdefg"},
		{Left: 2, Size: 9, Body: true, Need: 11, Rest: "ab\r\ncdefgh"},
		{Left: 2, Size: 9, Body: true, Need: 11, Rest: "ab\r\ncdefghi"},
		{Left: 2, Size: 9, Body: true, Need: 11, Rest: "ab\r\ncdefghi\r"},
		{Left: 1, Size: 22, Args: ab},
		{Left: 1, Size: 22, Args: ab, Rest: "$"},
		{Left: 1, Size: 22, Args: ab, Rest: "$0"},
		{Left: 1, Size: 22, Args: ab, Rest: "$0\r"},
		{Left: 1, Size: 26, Args: ab, Body: true},
		{Left: 1, Size: 26, Args: ab, Body: true, Rest: "\r"},
	} {
		wantFed(t, wide, s[:size], left(want))
		wantFed(t, wide, "*0\r\nPING\r\n"+s[:size], left(want, request(6, "PING")))
	}
	wantFed(t, wide, s, got(request(28, "ab\r\ncdefghi", "")))
	wantFed(t, wide, "*1\r\n$4\r\nPI", left(api.Input{Left: 1, Body: true, Need: 4, Size: 8, Rest: "PI"}))
}

func TestP5_2_ManyArgumentsCutOff(t *testing.T) {
	s, args := "*120\r\n", []string(nil)
	for i := range 120 {
		arg := strings.Repeat("x", i)
		wantFed(t, wide, s, left(api.Input{Args: args, Left: 120 - i, Size: len(s)}))
		s += fmt.Sprintf("$%d\r\n", i)
		wantFed(t, wide, s+arg, left(api.Input{Args: args, Left: 120 - i, Size: len(s), Body: true, Need: i, Rest: arg}))
		s += arg + "\r\n"
		args = append(args, arg)
	}
	wantFed(t, wide, s, got(request(len(s), args...)))
}

func TestP5_2_ALineCutOffBehindEachByte(t *testing.T) {
	s := "SET 'a \" b' *1\r$1\r\n"
	for size := range len(s) {
		wantFed(t, wide, s[:size], left(api.Input{Rest: s[:size]}))
		wantFed(t, wide, "PING\n\r\n"+s[:size], left(api.Input{Rest: s[:size]}, request(5, "PING")))
	}
	wantFed(t, wide, s, got(request(19, "SET", "a \" b", "*1\r$1")))
}

func TestP5_2_CountsThatAreTooMany(t *testing.T) {
	for _, x := range []struct {
		most int
		s    []string
	}{
		{1, []string{"*2", "*9", "*10", "*19"}},
		{2, []string{"*3", "*20", "*10"}},
		{9, []string{"*10", "*99", "*90"}},
		{10, []string{"*11", "*20", "*100", "*109"}},
		{16, []string{"*17", "*20", "*160", "*100"}},
		{1000, []string{"*1001", "*2000", "*10000", "*9999"}},
		{65535, []string{"*65536", "*655350", "*99999"}},
		{65536, []string{"*65537", "*65540", "*65600", "*66000", "*70000", "*655360", "*100000", "*655350", "*65539"}},
	} {
		l := api.Limits{Args: x.most, Bulk: 5, Line: 9}
		for _, s := range x.s {
			wantFault(t, l, api.ErrMany, s)
			wantFault(t, l, api.ErrMany, "PING\n*1\r\n$1\r\na\r\n"+s, request(5, "PING"), request(11, "a"))
		}
		head := fmt.Sprintf("*%d\r\n", x.most)
		wantFed(t, l, head, left(api.Input{Left: x.most, Size: len(head)}))
		wantFed(t, l, head[:len(head)-2], left(api.Input{Rest: head[:len(head)-2]}))
		if x.most <= 1000 {
			args := slices.Repeat([]string{"a"}, x.most)
			wantFed(t, l, bytesOf(args), got(request(len(bytesOf(args)), args...)))
		}
	}
}

func TestP5_2_LengthsThatAreTooLong(t *testing.T) {
	for _, x := range []struct {
		most int
		s    []string
	}{
		{1, []string{"$2", "$9", "$10", "$19"}},
		{2, []string{"$3", "$20", "$10"}},
		{9, []string{"$10", "$99", "$90"}},
		{12, []string{"$13", "$20", "$120", "$100"}},
		{1024, []string{"$1025", "$1030", "$2000", "$10000", "$10240"}},
		{1048575, []string{"$1048576", "$2000000", "$9999999"}},
		{1048576, []string{"$1048577", "$1048580", "$1049000", "$1100000", "$2000000", "$10485760", "$10000000", "$9999999"}},
	} {
		l := api.Limits{Args: 2, Bulk: x.most, Line: 9}
		for _, s := range x.s {
			wantFault(t, l, api.ErrLong, "*1\r\n"+s)
			wantFault(t, l, api.ErrLong, "*2\r\n$1\r\na\r\n"+s)
			wantFault(t, l, api.ErrLong, "\nP\n*1\r\n"+s, request(2, "P"))
		}
		head := fmt.Sprintf("$%d\r\n", x.most)
		wantFed(t, l, "*1\r\n"+head, left(api.Input{Left: 1, Size: len(head) + 4, Body: true, Need: x.most}))
		if x.most <= 1024 {
			arg := strings.Repeat("\n", x.most)
			wantFed(t, l, bytesOf([]string{arg}), got(request(len(bytesOf([]string{arg})), arg)))
		}
	}
}

// Numbers that are none, behind a Many's sign, and behind an argument's.
func TestP5_2_NumbersThatAreNone(t *testing.T) {
	for _, sign := range []string{"*", "*2\r\n$", "*2\r\n$1\r\na\r\n$", "\n*1\r\n$"} {
		for _, s := range []string{"-", "+", " ", "\t", "\r", "\n", "a", "x", "*", "$", "/", ":", ".", ",", "\x00", "\xff", "\uff11"[:1],
			"00", "01", "09", "0x", "0-", "0 ", "0a", "0\n", "1\n", "1 ", "1a", "1-", "1+", "1.", "1,", "1e", "1\x00", "1\xb9", "1\r\r", "1\r ", "1\r1", "1\ra", "0\r0", "2\r*", "2\r$"} {
			wantFault(t, wide, api.ErrForm, sign+s)
		}
	}
	// A zero ahead is told, however many digits are behind, and however few may be.
	for _, l := range []api.Limits{tight, wide, {}} {
		wantFault(t, l, api.ErrForm, "*00")
		wantFault(t, l, api.ErrForm, "*09")
		wantFault(t, l, api.ErrForm, "*1\r\n$00")
		wantFault(t, l, api.ErrForm, "*1\r\n$09")
	}
	// So is a number that has more digits than any, at the first one that is too many.
	digits := strings.Repeat("9", 400)
	wantFed(t, wide, "*"+digits, dead(api.ErrMany))
	wantFed(t, wide, "*1\r\n$"+digits, dead(api.ErrLong))
	wantFault(t, wide, api.ErrMany, "*"+digits[:5])
	wantFault(t, wide, api.ErrLong, "*1\r\n$"+digits[:7])
	for _, s := range []string{"18446744073709551617", "9223372036854775808", "4294967297", "-1", "-0", "+1", strings.Repeat("0", 400), "1" + strings.Repeat("0", 400)} {
		wantFed(t, wide, "*"+s+"\r\n", meant("*"+s+"\r\n", wide))
		wantFed(t, wide, "*1\r\n$"+s+"\r\n", meant("*1\r\n$"+s+"\r\n", wide))
	}
}

func TestP5_2_OtherBytesWhereAnArgumentBegins(t *testing.T) {
	for _, c := range eachByte() {
		for _, ahead := range []string{"*1\r\n", "*2\r\n$1\r\na\r\n", "*3\r\n$0\r\n\r\n$1\r\n\n\r\n", "PING\r\n"} {
			switch {
			case ahead == "PING\r\n" && c == "\n":
				wantFed(t, wide, ahead+c, got(request(6, "PING")))
			case ahead == "PING\r\n":
				wantFed(t, wide, ahead+c, left(api.Input{Rest: c}, request(6, "PING")))
			case c == "$":
				wantFed(t, wide, ahead+c, meant(ahead+c, wide))
			default:
				wantFault(t, wide, api.ErrForm, ahead+c)
			}
		}
	}
}

func TestP5_2_OtherBytesInALinesEnd(t *testing.T) {
	// Each with the byte that is to stand behind.
	for _, x := range []struct{ ahead, next string }{
		{"*1\r", "\n"}, {"*0\r", "\n"}, {"*2\r\n$1\r", "\n"}, {"*1\r\n$0\r", "\n"},
		{"*1\r\n$1\r\na", "\r"}, {"*1\r\n$0\r\n", "\r"}, {"*2\r\n$1\r\na\r\n$2\r\n\r\n", "\r"},
		{"*1\r\n$1\r\na\r", "\n"}, {"*1\r\n$0\r\n\r", "\n"}, {"*2\r\n$1\r\na\r\n$2\r\n\r\n\r", "\n"},
	} {
		for _, c := range eachByte() {
			if c == x.next {
				wantFed(t, wide, x.ahead+c, meant(x.ahead+c, wide))
				continue
			}
			wantFault(t, wide, api.ErrForm, x.ahead+c)
		}
	}
	for _, c := range eachByte() {
		for _, ahead := range []string{"*1", "*10", "*0", "*1\r\n$0", "*1\r\n$1", "*2\r\n$1\r\na\r\n$12"} {
			if c == "\r" || strings.Contains("0123456789", c) {
				wantFed(t, wide, ahead+c, meant(ahead+c, wide))
				continue
			}
			wantFault(t, wide, api.ErrForm, ahead+c)
		}
	}
}

// bases are beginnings of what may come, in which each byte of each kind stands.
var bases = []string{
	"*2\r\n$3\r\nGET\r\n$0\r\n\r\nPING\r\n",
	"*1\r\n$10\r\n012345\r\n89\r\n*0\r\n\r\n",
	"GET 'a b' \"\\x41\"\r\n*1\r\n$1\r\na\r\n",
	"\r\n \n*0\r\n*12\r\n$1\r\nx\r\n",
}

func TestP5_2_EachByteInEachPlace(t *testing.T) {
	for _, base := range bases {
		for at := range len(base) + 1 {
			for _, c := range eachByte() {
				instead := base[:at] + c + base[min(at+1, len(base)):]
				wantFed(t, wide, instead, meant(instead, wide))
				within := base[:at] + c + base[at:]
				wantFed(t, tight, within, meant(within, tight))
				endOnFault(t)
			}
		}
	}
}

func TestP5_2_EachByteLeftOut(t *testing.T) {
	for _, base := range bases {
		for at := range len(base) {
			for to := at + 1; to <= len(base); to++ {
				s := base[:at] + base[to:]
				wantFed(t, wide, s, meant(s, wide))
				wantFed(t, tight, s, meant(s, tight))
				endOnFault(t)
			}
		}
	}
}

func TestP5_2_LinesThatAreTooLong(t *testing.T) {
	for _, most := range []int{1, 2, 3, 10, 255, 256, 257, 1000} {
		l := api.Limits{Args: 9, Bulk: 2000, Line: most}
		for _, c := range []string{"a", "\r", " ", "\x00", "\"", "'", "\xff"} {
			s := strings.Repeat(c, most+1)
			wantFed(t, l, s[1:], left(api.Input{Rest: s[1:]}))
			wantFault(t, l, api.ErrLong, s)
			wantFault(t, l, api.ErrLong, "\n\n"+s)
			wantFed(t, l, s+s+s, dead(api.ErrLong))
		}
		a := strings.Repeat("a", most)
		wantFed(t, l, a+"\n", got(request(most+1, a)))
		wantFed(t, l, a[1:]+"\r\n", meant(a[1:]+"\r\n", l))
		// The byte 13 is one of those that came, when no byte 10 did yet.
		wantFault(t, l, api.ErrLong, a+"\r")
		wantFed(t, l, a+"\n"+a+"\n"+a, left(api.Input{Rest: a}, request(most+1, a), request(most+1, a)))
		wantFault(t, l, api.ErrLong, a+"\n"+a+"b", request(most+1, a))
	}
}

func TestP5_2_LinesAtTheGreatestLimit(t *testing.T) {
	a := strings.Repeat("a", api.MaxLine)
	for _, l := range []api.Limits{wide, {Args: 1, Bulk: api.MaxLine, Line: math.MaxInt}} {
		wantFed(t, l, a, left(api.Input{Rest: a}))
		wantFed(t, l, a+"\n", got(request(api.MaxLine+1, a)))
		wantFed(t, l, a[1:]+"\r\n", got(request(api.MaxLine+1, a[1:])))
		wantFed(t, l, a+"b", dead(api.ErrLong))
		wantFed(t, l, a+"\r\n", dead(api.ErrLong))
		wantFed(t, l, a+"b\n", dead(api.ErrLong))
	}
	blanks := strings.Repeat(" ", api.MaxLine)
	wantFed(t, wide, blanks+"\n", got())
	wantFed(t, wide, blanks+" \n", dead(api.ErrLong))
	args := slices.Repeat([]string{"x"}, api.MaxLine/2)
	wantFed(t, wide, strings.Join(args, " ")+"\r\n", got(request(api.MaxLine+1, args...)))
}

func TestP5_2_LinesWhoseQuotesAreNotRight(t *testing.T) {
	for _, s := range []string{`"`, `'`, `"a`, `'a`, `a"`, `"a"b`, `'a'b`, `"a""b"`, `SET a "b`, `"a\"`, `'a\'`, `"\x4`, `""a`, "'a'\r\r", "\"a\"\ra", `"a' `} {
		wantFault(t, wide, api.ErrQuote, s+"\n")
		wantFault(t, wide, api.ErrQuote, "GET a\r\n*0\r\n"+s+"\n", request(7, "GET", "a"))
		if !strings.HasSuffix(s, "\r") {
			wantFault(t, wide, api.ErrQuote, s+"\r\n")
		}
	}
	// The byte 10 ends a line, within quotes, too.
	wantFault(t, wide, api.ErrQuote, "\"a\n")
	wantFed(t, wide, "\"a\nb\"\n", dead(api.ErrQuote))
	wantFed(t, wide, "'a\r\n", dead(api.ErrQuote))
}

func TestP5_2_LinesOfTooManyArguments(t *testing.T) {
	for _, most := range []int{1, 2, 3, 16, 100} {
		l := api.Limits{Args: most, Bulk: 1, Line: 1000}
		for _, arg := range []string{"a", "''", `""`} {
			meantArg := strings.Trim(arg, `'"`)
			args := slices.Repeat([]string{arg}, most+1)
			fits := strings.Join(args[1:], " ")
			wantFed(t, l, fits+"\n", got(request(len(fits)+1, slices.Repeat([]string{meantArg}, most)...)))
			wantFed(t, l, fits+" \t \r\n", got(request(len(fits)+5, slices.Repeat([]string{meantArg}, most)...)))
			wantFault(t, l, api.ErrMany, strings.Join(args, " ")+"\n")
			wantFault(t, l, api.ErrMany, strings.Join(args, "\t")+"\r\n")
			wantFault(t, l, api.ErrMany, fits+" "+fits+" "+arg+"\n")
			wantFault(t, l, api.ErrMany, fits+" \r\r\n")
		}
	}
}

func TestP5_2_LinesWithArgumentsThatAreTooLong(t *testing.T) {
	for _, most := range []int{1, 2, 3, 10, 100} {
		l := api.Limits{Args: 3, Bulk: most, Line: 1000}
		a := strings.Repeat("a", most)
		wantFed(t, l, a+" "+a+" "+a+"\r\n", got(request(3*most+4, a, a, a)))
		for _, s := range []string{a + "a", "b " + a + "a", "b c " + a + "a", a + "a b c", `"` + a + ` "`, `'` + a + `a'`, a + "\r"} {
			wantFault(t, l, api.ErrLong, s+"\r\n")
			wantFault(t, l, api.ErrLong, "*1\r\n$1\r\nx\r\n"+s+" \n", request(11, "x"))
		}
		// It counts what an argument says, not how it is written.
		wantFed(t, l, `"`+strings.Repeat(`\x41`, most)+"\"\n", got(request(4*most+3, strings.Repeat("A", most))))
		wantFault(t, l, api.ErrLong, `"`+strings.Repeat(`\x41`, most+1)+"\"\n")
		wantFed(t, l, "'"+a+"'\n", got(request(most+3, a)))
	}
}

// Of two faults of a line the one that the document names first is told.
func TestP5_2_LinesWithTwoFaults(t *testing.T) {
	l := api.Limits{Args: 2, Bulk: 3, Line: 16}
	for _, x := range []struct {
		s string
		e api.Errno
	}{
		{"aaaa", api.ErrLong},
		{"a a a", api.ErrMany},
		{`"`, api.ErrQuote},
		{`a a "`, api.ErrQuote},
		{`a a a "`, api.ErrQuote},
		{`aaaa "`, api.ErrQuote},
		{`"aaaa`, api.ErrQuote},
		{`a a aaaa "`, api.ErrQuote},
		{`"aaaa"b a a`, api.ErrQuote},
		{"a a aaaa", api.ErrMany},
		{"aaaa a a", api.ErrMany},
		{"aaaa aaaa aaaa", api.ErrMany},
		{"aaaa bbbb", api.ErrLong},
		{"a aaaa", api.ErrLong},
	} {
		wantFault(t, l, x.e, x.s+"\n")
		wantFault(t, l, x.e, x.s+"\r\n")
	}
	for _, s := range []string{strings.Repeat("a", 17), strings.Repeat("a ", 8) + "a", strings.Repeat(`"`, 17), `"a"bc a a aaaa "x`, "a a a a a a a 'aa"} {
		wantFault(t, l, api.ErrLong, s)
		wantFed(t, l, s+"\n", dead(api.ErrLong))
	}
}

func TestP5_2_RequestsAheadOfAFault(t *testing.T) {
	whole := []api.Request{request(14, "PING"), request(7, "GET", "a"), request(10, "")}
	s := "*1\r\n$4\r\nPING\r\nGET a\r\n*0\r\n\r\n*1\r\n$0\r\n\r\n"
	for _, x := range []struct {
		s string
		e api.Errno
	}{{"*4", api.ErrMany}, {"*-", api.ErrForm}, {"*1\r\n$13", api.ErrLong}, {"*1\r\na", api.ErrForm}, {"*2\r\n$1\r\na\r\n$1\r\nbc", api.ErrForm}, {"'\n", api.ErrQuote}, {"a b c d\n", api.ErrMany}, {"aaaaaaaaaaaaa\n", api.ErrLong}, {strings.Repeat("a", 21), api.ErrLong}} {
		wantFault(t, tight, x.e, s+x.s, whole...)
		// Behind it none is told, be it whole.
		wantFed(t, tight, s+x.s+"\n"+s+s, dead(x.e, whole...))
		// What was told by an earlier call is not told again.
		if got := feed(feed(api.Input{}, s, tight).in, x.s, tight); !same(got, dead(x.e)) {
			t.Errorf("Feed(%q) behind all that = %s; want %d alone", x.s, told(got), x.e)
		}
	}
}

func TestP5_2_ADeadInputStays(t *testing.T) {
	for _, s := range []string{"*x", "*4", "*1\r\n$13", "*2\r\n$1\r\na\r\nx", "'\n", strings.Repeat("a", 21)} {
		x := feed(api.Input{}, s, tight)
		if x.e == api.OK || !same(x, dead(x.e)) {
			t.Errorf("Feed(%q) = %s; want a fault", s, told(x))
		}
		for _, b := range []string{"", "a", "\n", "\r\n", "PING\r\n", "*1\r\n$4\r\nPING\r\n", "*x", "'\n", "*99999", s} {
			for _, l := range []api.Limits{tight, wide, {}} {
				if y := feed(x.in, b, l); !same(y, dead(x.e)) {
					t.Errorf("Feed(%q) of one that is dead = %s; want %s", b, told(y), told(dead(x.e)))
				}
			}
		}
	}
	for _, e := range []api.Errno{api.ErrForm, api.ErrLong, api.ErrMany, api.ErrQuote, api.ErrDisk, -1, 1 << 40} {
		if y := feed(api.Input{Dead: e}, "PING\r\n", wide); !same(y, dead(e)) {
			t.Errorf("Feed of one that is dead by %d = %s", e, told(y))
		}
	}
}

// An Input that is fed nothing stays, and tells no request again.
func TestP5_2_FedNothing(t *testing.T) {
	for _, base := range bases {
		for size := range len(base) + 1 {
			x := feed(api.Input{}, base[:size], wide)
			if y := feed(x.in, "", wide); !same(y, left(x.in)) {
				t.Errorf("Feed of nothing behind %q = %s; want %s", base[:size], told(y), told(left(x.in)))
			}
		}
	}
}

// What is left is held to the limits of the call that it is read by; what was gone past is not read again.
func TestP5_2_OtherLimitsThanBefore(t *testing.T) {
	for _, x := range []struct {
		s, b string
		want fed
	}{
		{"*4", "", dead(api.ErrMany)},
		{"*4", "\r\n", dead(api.ErrMany)},
		{"*3", "\r\n", left(api.Input{Left: 3, Size: 4})},
		{"*4\r\n", "$", left(api.Input{Left: 4, Size: 4, Rest: "$"})},
		{"*4\r\n$13", "", dead(api.ErrLong)},
		{"*4\r\n$12", "\r\n", left(api.Input{Left: 4, Size: 9, Body: true, Need: 12})},
		{"*1\r\n$13\r\n0123456789ab", "c\r\n", got(request(24, "0123456789abc"))},
		{strings.Repeat("a", 21), "", dead(api.ErrLong)},
		{strings.Repeat("a", 21), "\n", dead(api.ErrLong)},
		{strings.Repeat("a ", 10), "", left(api.Input{Rest: strings.Repeat("a ", 10)})},
		{strings.Repeat("a ", 10), "\n", dead(api.ErrMany)},
	} {
		if y := feed(feed(api.Input{}, x.s, wide).in, x.b, tight); !same(y, x.want) {
			t.Errorf("Feed(%q), and %q with lesser limits, = %s; want %s", x.s, x.b, told(y), told(x.want))
		}
	}
}

func TestP5_2_AtTheGreatestLimits(t *testing.T) {
	args := slices.Repeat([]string{"a"}, api.MaxArgs)
	s := bytesOf(args)
	whole := got(request(len(s), args...))
	for _, pieces := range [][]string{{s}, {s[:len(s)/2], s[len(s)/2:]}, {s[:len(s)-1], s[len(s)-1:]}, chunks(s, 4099)} {
		if x := feedPieces(wide, pieces...); !same(x, whole) {
			t.Errorf("a Many of %d arguments, in %d pieces: %s", len(args), len(pieces), told(x))
		}
	}
	arg := strings.Repeat("ab\r\n", api.MaxBulk/4)
	s = bytesOf([]string{"SET", arg, arg})
	whole = got(request(len(s), "SET", arg, arg), request(len(s), "SET", arg, arg))
	for _, pieces := range [][]string{{s, s}, {s + s}, {s[:9], s[9:30] + s[30:], s}, chunks(s+s, 65537)} {
		if x := feedPieces(wide, pieces...); !same(x, whole) {
			t.Errorf("a Many with an argument of %d bytes, in %d pieces: %s", len(arg), len(pieces), told(x))
		}
	}
	half := feed(api.Input{}, s[:len(s)/2], wide)
	want := left(api.Input{Args: []string{"SET"}, Left: 2, Size: 23, Body: true, Need: api.MaxBulk, Rest: s[23 : len(s)/2]})
	if len(s)/2 > 23+api.MaxBulk {
		want = meant(s[:len(s)/2], wide)
	}
	if !same(half, want) {
		t.Errorf("half of that: %s; want %s", told(half), told(want))
	}
}

// Of a Many of MaxArgs arguments, of MaxBulk bytes each: how many bytes its first line has, an argument's, and an argument with its line's end.
const (
	longest   = len("*65536\r\n")
	longHead  = len("$1048576\r\n")
	longWhole = longHead + api.MaxBulk + len("\r\n")
)

// behindLong is the Input behind so many of that Many's arguments, all of which are one text.
func behindLong(n int, arg string) api.Input {
	return api.Input{Args: slices.Repeat([]string{arg}, n), Left: api.MaxArgs - n, Size: longest + n*longWhole}
}

// Whatever number of bytes the limits let an Input have, its Size is all of them: 2047 and 2048 of these arguments are just below, and above, 2^31 bytes, 4095 and 4096 those of 2^32, 65535 the most.
func TestP5_2_SizesOfAnyNumberOfArguments(t *testing.T) {
	arg := strings.Repeat("ab\r\n", api.MaxBulk/4)
	head := "$1048576\r\n"
	for _, n := range []int{1, 2, 1000, 2046, 2047, 2048, 2049, 4095, 4096, 4097, 32768, 65533, 65534, 65535} {
		in := behindLong(n, arg)
		if x := feed(in, "", wide); !same(x, left(in)) {
			t.Fatalf("Feed of nothing behind %d arguments = %s; want %s", n, told(x), told(left(in)))
		}
		begun := in
		begun.Body, begun.Need, begun.Size = true, api.MaxBulk, in.Size+longHead
		if x := feed(in, head, wide); !same(x, left(begun)) {
			t.Errorf("behind %d arguments, and a first line: %s; want %s", n, told(x), told(left(begun)))
		}
		begun.Rest = arg + "\r"
		if x := feed(in, head+arg+"\r", wide); !same(x, left(begun)) {
			t.Errorf("behind %d arguments, and one without its last byte: %s; want %s", n, told(x), told(left(begun)))
		}
		want := left(behindLong(n+1, arg))
		if n+1 == api.MaxArgs {
			want = got(api.Request{Args: want.in.Args, Size: want.in.Size})
		}
		if x := feed(in, head+arg+"\r\n", wide); !same(x, want) {
			t.Errorf("behind %d arguments, and one: %s; want %s", n, told(x), told(want))
		}
		if x := feed(begun, "\n", wide); !same(x, want) {
			t.Errorf("behind %d arguments, and one, byte 10 by itself: %s; want %s", n, told(x), told(want))
		}
	}
}

// The greatest request that the limits let, the last argument of which comes in all kinds of pieces, is told with all its bytes; so is what is behind it.
func TestP5_5_TheGreatestSizeInAnyPieces(t *testing.T) {
	arg := strings.Repeat("x", api.MaxBulk)
	last := "$1048576\r\n" + arg + "\r\n"
	all := slices.Repeat([]string{arg}, api.MaxArgs)
	want := got(request(longest+api.MaxArgs*longWhole, all...), request(6, "PING"))
	for _, size := range []int{1, 2, 9, 10, 11, 4099, api.MaxBulk, api.MaxBulk + 10, api.MaxBulk + 11, len(last), len(last) + 3, len(last) + 6} {
		pieces := chunks(last+"PING\r\n", size)
		if size < 4099 {
			// Only the bytes where something turns by themselves: each piece copies all arguments.
			pieces = slices.Concat(chunks(last[:longHead+11], size), []string{last[longHead+11 : len(last)-5]}, chunks(last[len(last)-5:]+"PING\r\n", size))
		}
		x := left(behindLong(api.MaxArgs-1, arg))
		for _, b := range pieces {
			y := feed(x.in, b, wide)
			x = fed{y.in, append(x.whole, y.whole...), y.e}
		}
		if !same(x, want) {
			t.Errorf("the last of %d arguments, in %d pieces: %s; want %s", len(all), len(pieces), told(x), told(want))
		}
	}
}

// A Size that Feed never told is not brought out of its type's range by what comes.
func TestP5_2_SizesThatNobodyTold(t *testing.T) {
	for back := range 12 {
		in := api.Input{Left: 2, Size: math.MaxInt - back}
		x := feed(in, "$1\r\na\r\n", wide)
		if x.in.Size < in.Size-7 || x.in.Left != 1 || x.e != api.OK {
			t.Errorf("Feed behind a Size of %d = %s", in.Size, told(x))
		}
		in.Left = 1
		x = feed(in, "$1\r\na\r\n", wide)
		if len(x.whole) != 1 || x.whole[0].Size < in.Size-7 || x.e != api.OK {
			t.Errorf("Feed behind a Size of %d, and one argument left, = %s", in.Size, told(x))
		}
	}
}

func TestP5_2_LongInputsByteByByte(t *testing.T) {
	wantBytewise := func(s string, want fed) {
		t.Helper()
		if x := feedPieces(wide, chunks(s, 1)...); !same(x, want) {
			t.Errorf("Feed(%.80q), byte by byte, = %s; want %s", s, told(x), told(want))
		}
	}
	arg := strings.Repeat("\r\n*$", 1<<13)
	wantBytewise(bytesOf([]string{arg, "", arg}), got(request(65566, arg, "", arg)))
	args := slices.Repeat([]string{"", "b"}, 1<<10)
	wantBytewise(bytesOf(args), got(request(len(bytesOf(args)), args...)))
	wantBytewise(strings.Repeat("*0\r\n\r\n \n", 20000), got())
	wantBytewise(strings.Repeat("a", api.MaxLine)+"\n", got(request(api.MaxLine+1, strings.Repeat("a", api.MaxLine))))
	wantBytewise(strings.Repeat("a", api.MaxLine)+"\r\n", dead(api.ErrLong))
}

func TestP5_2_WhatIsHandedInStays(t *testing.T) {
	room := []string{"a", "b", "spare", "x", "y"}
	in := api.Input{Args: room[:2], Left: 3, Size: 20}
	was := api.Input{Args: slices.Clone(room[:2]), Left: 3, Size: 20}
	for _, b := range []string{"$1\r\nc\r\n", "$1\r\nc\r\n$0\r\n\r\n$0\r\n\r\n", "$1\r\nc\r\nx", "", "x", "$1\r\nc\r\n$1"} {
		feed(in, b, wide)
		if !sameInput(in, was) || !slices.Equal(room, []string{"a", "b", "spare", "x", "y"}) {
			t.Errorf("behind Feed(%q) what was handed in is %q of %q", b, in.Args, room)
		}
	}
	dying := api.Input{Dead: api.ErrForm, Args: room[:2], Left: 1}
	if x := feed(dying, "a", wide); !sameInput(x.in, dying) || x.e != api.ErrForm || len(x.whole) > 0 {
		t.Errorf("Feed of one that is dead = %s", told(x))
	}
}

// What is answered has no list that another answer, or an argument, has.
func TestP5_2_AnswersShareNoList(t *testing.T) {
	spoil := func(l []string) {
		for i := range l[:cap(l)] {
			l[:cap(l)][i] = "spoilt"
		}
	}
	first := feed(api.Input{}, "*5\r\n$1\r\na\r\n$1\r\nb\r\n$1\r\nc\r\n", wide)
	second := feed(first.in, "$1\r\nd\r\n", wide)
	other := feed(first.in, "$1\r\ne\r\n$1\r\nf\r\nGET x\r\nPUT y\r\n*1\r\n$1\r\nz\r\n*2\r\n$1\r\ng\r\n", wide)
	third := feed(second.in, "", wide)
	wantSecond := left(api.Input{Args: []string{"a", "b", "c", "d"}, Left: 1, Size: 32})
	wantOther := left(api.Input{Args: []string{"g"}, Left: 1, Size: 11}, request(39, "a", "b", "c", "e", "f"), request(7, "GET", "x"), request(7, "PUT", "y"), request(11, "z"))
	if !same(second, wantSecond) || !same(third, wantSecond) || !same(other, wantOther) {
		t.Errorf("%s; %s; %s", told(second), told(third), told(other))
	}
	spoil(first.in.Args)
	spoil(third.in.Args)
	if !same(second, wantSecond) || !same(other, wantOther) {
		t.Errorf("behind other answers' change: %s; %s", told(second), told(other))
	}
	spoil(second.in.Args)
	spoil(other.in.Args)
	for i := range other.whole {
		if !sameRequest(other.whole[i], wantOther.whole[i]) {
			t.Errorf("request %d, behind other lists' change: %q", i, other.whole[i].Args)
		}
		spoil(other.whole[i].Args)
	}
}

// Whatever is given, Feed ends.
func TestP5_2_AnyInputEnds(t *testing.T) {
	numbers := []int{math.MinInt, math.MinInt + 1, -3, -2, -1, 0, 1, 2, 3, 1 << 20, math.MaxInt - 2, math.MaxInt - 1, math.MaxInt}
	for _, n := range numbers {
		for _, need := range numbers {
			for _, size := range numbers {
				for _, rest := range []string{"", "a", "\r", "\r\n", "a\r\n", "$1\r\na\r\n", "*1\r\n$0\r\n\r\n", "*x"} {
					for _, body := range []bool{false, true} {
						in := api.Input{Rest: rest, Args: []string{"x"}, Left: n, Size: size, Body: body, Need: need}
						for _, b := range []string{"", "\r\n", "\nPING\r\n*1\r\n$1\r\na\r\n"} {
							for _, l := range []api.Limits{{}, wide} {
								x := feed(in, b, l)
								if x.in.Size < 0 || x.in.Left < 0 || x.in.Need < 0 || x.in.Dead != x.e {
									t.Fatalf("Feed(%+v, %q) = %s", in, b, told(x))
								}
							}
						}
						parse.Idle(in)
					}
				}
			}
		}
	}
}

func TestP5_3_Put(t *testing.T) {
	for _, x := range []struct {
		args []string
		want string
	}{
		{nil, "*0\r\n"},
		{[]string{}, "*0\r\n"},
		{[]string{""}, "*1\r\n$0\r\n\r\n"},
		{[]string{"", ""}, "*2\r\n$0\r\n\r\n$0\r\n\r\n"},
		{[]string{"PING"}, "*1\r\n$4\r\nPING\r\n"},
		{[]string{"SET", "a", "b c"}, "*3\r\n$3\r\nSET\r\n$1\r\na\r\n$3\r\nb c\r\n"},
		{[]string{"a", "", "b"}, "*3\r\n$1\r\na\r\n$0\r\n\r\n$1\r\nb\r\n"},
		{[]string{"\r\n", "*1\r\n", "\n"}, "*3\r\n$2\r\n\r\n\r\n$4\r\n*1\r\n\r\n$1\r\n\n\r\n"},
		{[]string{"\"'\\", "\x00\xff"}, "*2\r\n$3\r\n\"'\\\r\n$2\r\n\x00\xff\r\n"},
		{[]string{"\u00e9\u20ac"}, "*1\r\n$5\r\n\xc3\xa9\xe2\x82\xac\r\n"},
		{[]string{"0123456789"}, "*1\r\n$10\r\n0123456789\r\n"},
		{[]string{allBytes()}, "*1\r\n$256\r\n" + allBytes() + "\r\n"},
		{slices.Repeat([]string{"a"}, 100), "*100\r\n" + strings.Repeat("$1\r\na\r\n", 100)},
		{[]string{strings.Repeat("a", api.MaxBulk)}, "*1\r\n$1048576\r\n" + strings.Repeat("a", api.MaxBulk) + "\r\n"},
		{make([]string, api.MaxArgs), "*65536\r\n" + strings.Repeat("$0\r\n\r\n", api.MaxArgs)},
		// No limit is told of what is put.
		{[]string{strings.Repeat("a", api.MaxBulk+1)}, "*1\r\n$1048577\r\n" + strings.Repeat("a", api.MaxBulk+1) + "\r\n"},
		{make([]string, api.MaxArgs+1), "*65537\r\n" + strings.Repeat("$0\r\n\r\n", api.MaxArgs+1)},
	} {
		if s := parse.Put(x.args...); s != x.want {
			t.Errorf("Put(%s) = %.100q; want %.100q", short(x.args), s, x.want)
		}
	}
	for _, c := range eachByte() {
		if s, want := parse.Put(c, "a"+c), "*2\r\n$1\r\n"+c+"\r\n$2\r\na"+c+"\r\n"; s != want {
			t.Errorf("Put of %q = %q; want %q", c, s, want)
		}
	}
}

func TestP5_3_WhatIsHandedInStays(t *testing.T) {
	room := []string{"a", "", "spare"}
	if s := parse.Put(room[:2]...); s != "*2\r\n$1\r\na\r\n$0\r\n\r\n" || !slices.Equal(room, []string{"a", "", "spare"}) {
		t.Errorf("Put = %q, of what is now %q", s, room)
	}
}

func TestP5_4_Idle(t *testing.T) {
	for _, x := range []struct {
		s    string
		want bool
	}{
		{"", true},
		{"PING\r\n", true},
		{"PING\n", true},
		{"\n", true},
		{"\r\n \n", true},
		{"*0\r\n", true},
		{"*1\r\n$4\r\nPING\r\n", true},
		{"*1\r\n$0\r\n\r\n", true},
		{"*1\r\n$4\r\nPING\r\n*0\r\nPING\r\n", true},
		{"P", false},
		{"PING\r", false},
		{" ", false},
		{"\r", false},
		{"PING\r\nP", false},
		{"PING\n\r", false},
		{"*", false},
		{"*0", false},
		{"*0\r", false},
		{"*1\r\n", false},
		{"*2\r\n$0\r\n\r\n", false},
		{"*1\r\n$", false},
		{"*1\r\n$0\r\n", false},
		{"*1\r\n$0\r\n\r", false},
		{"*1\r\n$4\r\n", false},
		{"*1\r\n$4\r\nPING", false},
		{"*1\r\n$4\r\nPING\r", false},
		{"*1\r\n$4\r\nPING\r\n*", false},
		{"*x", false},
		{"PING\r\n*x", false},
		{"'\n", false},
		{"*1\r\nx", false},
		{"*99999", false},
		{strings.Repeat("a", api.MaxLine+1), false},
	} {
		for _, pieces := range [][]string{{x.s}, bytewise(x.s)} {
			if in := feedPieces(wide, pieces...).in; parse.Idle(in) != x.want {
				t.Errorf("Idle behind %.60q = %v; want %v", x.s, !x.want, x.want)
			}
		}
	}
	for _, in := range []api.Input{{Dead: api.ErrForm}, {Rest: "a"}, {Left: 1, Size: 4}, {Left: 1, Size: 8, Body: true}, {Left: 1, Args: []string{""}, Size: 10}} {
		if parse.Idle(in) {
			t.Errorf("Idle(%+v)", in)
		}
	}
	if !parse.Idle(api.Input{}) || !parse.Idle(api.Input{Args: []string{}}) {
		t.Error("the empty Input is not idle")
	}
}

// Behind each byte of what comes it is idle just if that is the last one of a request, or of what is gone past and is none.
func TestP5_4_IdleBehindEachByte(t *testing.T) {
	for _, base := range bases {
		for size := range len(base) + 1 {
			in := meant(base[:size], wide).in
			want := in.Rest == "" && in.Size == 0
			if got := parse.Idle(feed(api.Input{}, base[:size], wide).in); got != want {
				t.Errorf("Idle behind %q = %v; want %v", base[:size], got, want)
			}
		}
	}
}

// wantEveryCut tells whether a text in two pieces, wherever it is cut, byte by byte, and at once is read alike, and as it is to be.
func wantEveryCut(t *testing.T, l api.Limits, s string) {
	t.Helper()
	want := meant(s, l)
	wantFed(t, l, s, want)
	for at := range len(s) + 1 {
		if x := feedPieces(l, s[:at], s[at:]); !same(x, want) {
			t.Errorf("%+v: Feed(%q), and %q, = %s; want %s", l, s[:at], s[at:], told(x), told(want))
		}
	}
}

func TestP5_5_AllShortTexts(t *testing.T) {
	for _, s := range texts("*$01\r\na\"", 5) {
		wantEveryCut(t, api.Limits{Args: 1, Bulk: 1, Line: 3}, s)
		wantFed(t, tight, s, meant(s, tight))
		endOnFault(t)
	}
}

// All that may be behind what leads to each kind of place.
func TestP5_5_AllShortTextsBehindOthers(t *testing.T) {
	for _, ahead := range []string{"*1", "*1\r\n", "*2\r\n$1", "*1\r\n$0\r\n", "*2\r\n$1\r\na", "*2\r\n$1\r\na\r\n", "*3\r\n$2\r\n", "a \"b", "*0\r\n", "a\r"} {
		for _, s := range texts("*$02-\r\n\"", 4) {
			wantFed(t, tight, ahead+s, meant(ahead+s, tight))
			if x, want := feedPieces(tight, ahead, s), meant(ahead+s, tight); !same(x, want) {
				t.Errorf("Feed(%q), and %q, = %s; want %s", ahead, s, told(x), told(want))
			}
			endOnFault(t)
		}
	}
}

func TestP5_5_RolledPieces(t *testing.T) {
	roll := rolled(5)
	for _, l := range []api.Limits{wide, tight, {Args: 2, Bulk: 4, Line: 8}, {Args: 4, Bulk: 8, Line: 12}} {
		for range 20000 {
			s := rolledCame(roll)
			want := meant(s, l)
			for range 3 {
				pieces := rolledPieces(roll, s)
				if x := feedPieces(l, pieces...); !same(x, want) {
					t.Errorf("%+v: Feed of %q = %s; want %s", l, pieces, told(x), told(want))
				}
			}
			endOnFault(t)
		}
	}
}

func TestP5_5_EachCut(t *testing.T) {
	roll := rolled(6)
	for _, base := range bases {
		wantEveryCut(t, wide, base)
		wantEveryCut(t, tight, base)
		wantEveryCut(t, wide, base+base)
	}
	for range 2000 {
		wantEveryCut(t, tight, rolledCame(roll))
		endOnFault(t)
	}
}

// wantBack tells whether what is put is fed back, whole and cut off anywhere.
func wantBack(t *testing.T, l api.Limits, args ...string) {
	t.Helper()
	s := parse.Put(args...)
	want := got(request(len(s), args...))
	if len(args) == 0 {
		want = got()
	}
	wantFed(t, l, s, want)
	for at := range len(s) {
		x := feed(api.Input{}, s[:at], l)
		if len(x.whole) > 0 || x.e != api.OK || parse.Idle(x.in) != (at == 0) {
			t.Errorf("Feed(%.80q) = %s; want no request", s[:at], told(x))
		}
		if y := feed(x.in, s[at:], l); !same(y, want) {
			t.Errorf("Feed(%.80q), and the rest, = %s; want %s", s[:at], told(y), told(want))
		}
	}
}

func TestP5_6_WhatIsPutIsFedBack(t *testing.T) {
	wantBack(t, wide)
	wantBack(t, wide, "")
	wantBack(t, wide, "", "", "")
	wantBack(t, wide, "PING")
	wantBack(t, wide, "SET", "a", "b c")
	wantBack(t, wide, "\r\n", "\n", "\r", "*1\r\n", "$1\r\n")
	wantBack(t, wide, "\"", "'", "\\", " ")
	wantBack(t, wide, allBytes(), "", allBytes()+allBytes())
	wantBack(t, wide, slices.Repeat([]string{"a", ""}, 60)...)
	wantBack(t, tight, "123456789012", "", "\r\n")
	wantBack(t, api.Limits{Args: 1, Bulk: 1, Line: 1}, "a")
	for _, c := range eachByte() {
		wantBack(t, wide, c, c+c, "a"+c)
	}
	for _, s := range texts("*$1\r\n", 4) {
		wantBack(t, tight, s, s)
		endOnFault(t)
	}
}

func TestP5_6_OneBehindTheOther(t *testing.T) {
	roll := rolled(7)
	for range 3000 {
		var s string
		var whole []api.Request
		for range roll(5) {
			args := rolledArgs(roll, allBytes(), 6)
			s += parse.Put(args...)
			if len(args) > 0 {
				whole = append(whole, request(len(parse.Put(args...)), args...))
			}
		}
		wantFed(t, wide, s, got(whole...))
		if x := feedPieces(wide, rolledPieces(roll, s)...); !same(x, got(whole...)) {
			t.Errorf("Feed of %q = %s", s, told(x))
		}
		endOnFault(t)
	}
}

// The limits let it, or they do not.
func TestP5_6_IfTheLimitsLetIt(t *testing.T) {
	for n := range 8 {
		for size := range 8 {
			args := slices.Repeat([]string{strings.Repeat("x", size)}, n)
			s := parse.Put(args...)
			for most := 1; most < 8; most++ {
				for bulk := 1; bulk < 8; bulk++ {
					want := got(request(len(s), args...))
					switch {
					case n == 0:
						want = got()
					case n > most:
						want = dead(api.ErrMany)
					case size > bulk:
						want = dead(api.ErrLong)
					}
					wantFed(t, api.Limits{Args: most, Bulk: bulk, Line: 1}, s, want)
				}
			}
		}
	}
}

func TestP5_6_LongOnes(t *testing.T) {
	for _, args := range [][]string{
		slices.Repeat([]string{"a", "", "\r\n"}, api.MaxArgs/3),
		make([]string, api.MaxArgs),
		{strings.Repeat("\r\n", api.MaxBulk/2)},
		slices.Repeat([]string{strings.Repeat(allBytes(), api.MaxBulk/256)}, 8),
	} {
		s := parse.Put(args...)
		for _, pieces := range [][]string{{s}, chunks(s, 1<<15), chunks(s, 1<<18+1)} {
			if x := feedPieces(wide, pieces...); !same(x, got(request(len(s), args...))) {
				t.Errorf("Put(%s) in %d pieces = %s", short(args), len(pieces), told(x))
			}
		}
	}
	tooMany := parse.Put(make([]string, api.MaxArgs+1)...)
	tooLong := parse.Put("SET", strings.Repeat("a", api.MaxBulk+1))
	if x, y := feed(api.Input{}, tooMany, wide), feed(api.Input{}, tooLong, wide); !same(x, dead(api.ErrMany)) || !same(y, dead(api.ErrLong)) {
		t.Errorf("above the greatest limits: %s; %s", told(x), told(y))
	}
}
