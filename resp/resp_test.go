package resp_test

import (
	"fmt"
	"math"
	"math/big"
	"reflect"
	"regexp"
	"slices"
	"strings"
	"testing"

	"mews/api"
	"mews/resp"
)

// within is a reply within so many lists.
func within(depth int, r api.Reply) api.Reply {
	for range depth {
		r = api.Reply{Kind: api.List, L: []api.Reply{r}}
	}
	return r
}

// list is a List, put together by hand.
func list(l ...api.Reply) api.Reply {
	return api.Reply{Kind: api.List, L: l}
}

func status(s string) api.Reply  { return api.Reply{Kind: api.Status, S: s} }
func failure(s string) api.Reply { return api.Reply{Kind: api.Failure, S: s} }
func number(n int64) api.Reply   { return api.Reply{Kind: api.Number, N: n} }
func bulk(s string) api.Reply    { return api.Reply{Kind: api.Bulk, S: s} }

var (
	null     = api.Reply{Kind: api.Nil}
	nullList = api.Reply{Kind: api.NilList}
)

// known is a reply beside its bytes, written out.
type known struct {
	r     api.Reply
	bytes string
}

// short are replies of few bytes: each kind, its edges, and lists of them.
func short() []known {
	nine := "*9\r\n+OK\r\n-ERR x\r\n:-7\r\n$1\r\na\r\n$0\r\n\r\n$-1\r\n*0\r\n*-1\r\n*1\r\n:1\r\n"
	return []known{
		{status("OK"), "+OK\r\n"},
		{status(""), "+\r\n"},
		{status("PONG +-:$* \x00\xff\u00e9\t"), "+PONG +-:$* \x00\xff\u00e9\t\r\n"},
		{failure("ERR no such key"), "-ERR no such key\r\n"},
		{failure(""), "-\r\n"},
		{failure("-1"), "--1\r\n"},
		{number(0), ":0\r\n"},
		{number(5), ":5\r\n"},
		{number(-1), ":-1\r\n"},
		{number(-7), ":-7\r\n"},
		{number(10), ":10\r\n"},
		{number(100), ":100\r\n"},
		{number(-305), ":-305\r\n"},
		{number(math.MaxInt64), ":9223372036854775807\r\n"},
		{number(math.MaxInt64 - 1), ":9223372036854775806\r\n"},
		{number(math.MinInt64), ":-9223372036854775808\r\n"},
		{number(math.MinInt64 + 1), ":-9223372036854775807\r\n"},
		{bulk(""), "$0\r\n\r\n"},
		{bulk("a"), "$1\r\na\r\n"},
		{bulk("hello"), "$5\r\nhello\r\n"},
		{bulk("\r\n"), "$2\r\n\r\n\r\n"},
		{bulk("\n"), "$1\r\n\n\r\n"},
		{bulk("\r"), "$1\r\n\r\r\n"},
		{bulk("a\r\nb\x00\xff"), "$6\r\na\r\nb\x00\xff\r\n"},
		{bulk("\u00e9\u20ac"), "$5\r\n\xc3\xa9\xe2\x82\xac\r\n"},
		{bulk("0123456789"), "$10\r\n0123456789\r\n"},
		{bulk("$-1\r\n"), "$5\r\n$-1\r\n\r\n"},
		{null, "$-1\r\n"},
		{nullList, "*-1\r\n"},
		{list(), "*0\r\n"},
		{list(bulk("a"), number(5)), "*2\r\n$1\r\na\r\n:5\r\n"},
		{list(status("OK"), failure("ERR x"), number(-7), bulk("a"), bulk(""), null, list(), nullList, list(number(1))), nine},
		{list(list(), list(list(), nullList), null), "*3\r\n*0\r\n*2\r\n*0\r\n*-1\r\n$-1\r\n"},
		{list(list(bulk("a"), list(bulk("b"))), list(bulk("c"))), "*2\r\n*2\r\n$1\r\na\r\n*1\r\n$1\r\nb\r\n*1\r\n$1\r\nc\r\n"},
		{list(number(1), number(2), number(3), number(4), number(5), number(6), number(7), number(8), number(9), number(10)),
			"*10\r\n:1\r\n:2\r\n:3\r\n:4\r\n:5\r\n:6\r\n:7\r\n:8\r\n:9\r\n:10\r\n"},
		{within(8, number(5)), strings.Repeat("*1\r\n", 8) + ":5\r\n"},
		{within(8, bulk("*")), strings.Repeat("*1\r\n", 8) + "$1\r\n*\r\n"},
		{within(8, null), strings.Repeat("*1\r\n", 8) + "$-1\r\n"},
		{within(7, list()), strings.Repeat("*1\r\n", 7) + "*0\r\n"},
		{within(7, nullList), strings.Repeat("*1\r\n", 7) + "*-1\r\n"},
		{list(within(7, null), within(7, status(""))), "*2\r\n" + strings.Repeat("*1\r\n", 7) + "$-1\r\n" + strings.Repeat("*1\r\n", 7) + "+\r\n"},
	}
}

// long are replies of many bytes: at the limits, and above such as do not count of their kind.
func long() []known {
	text := strings.Repeat("ab\r\n", api.MaxBulk/4)
	wide := make([]api.Reply, api.MaxList)
	for i := range wide {
		wide[i] = number(int64(i % 10))
	}
	nils := slices.Repeat([]api.Reply{nullList}, api.MaxList)
	line := strings.Repeat("x", api.MaxBulk+1)
	ones := strings.Repeat(":0\r\n:1\r\n:2\r\n:3\r\n:4\r\n:5\r\n:6\r\n:7\r\n:8\r\n:9\r\n", api.MaxList/10+1)
	return []known{
		{bulk(text), "$1048576\r\n" + text + "\r\n"},
		{bulk(text[:api.MaxBulk-1]), "$1048575\r\n" + text[:api.MaxBulk-1] + "\r\n"},
		{status(line), "+" + line + "\r\n"},
		{failure(line), "-" + line + "\r\n"},
		{list(wide...), "*65536\r\n" + ones[:4*api.MaxList]},
		{list(wide[1:]...), "*65535\r\n" + ones[4:4*api.MaxList]},
		{within(6, list(nils...)), strings.Repeat("*1\r\n", 6) + "*65536\r\n" + strings.Repeat("*-1\r\n", api.MaxList)},
		{list(list(wide...), bulk(text), list(wide...)), "*3\r\n*65536\r\n" + ones[:4*api.MaxList] + "$1048576\r\n" + text + "\r\n*65536\r\n" + ones[:4*api.MaxList]},
	}
}

// bytesOf are a reply's bytes, as the document's words tell them.
func bytesOf(r api.Reply) string {
	var of strings.Builder
	switch r.Kind {
	case api.Status:
		return fmt.Sprintf("+%s\r\n", r.S)
	case api.Failure:
		return fmt.Sprintf("-%s\r\n", r.S)
	case api.Number:
		return fmt.Sprintf(":%d\r\n", r.N)
	case api.Bulk:
		return fmt.Sprintf("$%d\r\n%s\r\n", len(r.S), r.S)
	case api.Nil:
		return "$-1\r\n"
	case api.NilList:
		return "*-1\r\n"
	}
	for _, x := range r.L {
		of.WriteString(bytesOf(x))
	}
	return fmt.Sprintf("*%d\r\n%s", len(r.L), of.String())
}

// alike tells whether two replies are one another field by field, whether a list that has nothing is nil or not.
func alike(a, b api.Reply) bool {
	if a.Kind != b.Kind || a.N != b.N || a.S != b.S || len(a.L) != len(b.L) {
		return false
	}
	for i := range a.L {
		if !alike(a.L[i], b.L[i]) {
			return false
		}
	}
	return true
}

// rolled gives numbers without a pattern to them, the same ones each time.
func rolled(seed uint64) func(below int) int {
	return func(below int) int {
		seed = seed*6364136223846793005 + 1442695040888963407
		return int(seed>>33) % below
	}
}

// rolledReply is a reply of any kind, within so many lists.
func rolledReply(roll func(int) int, depth int) api.Reply {
	kind := roll(9) + 1
	if depth == api.MaxDepth {
		kind = roll(5) + 1
	}
	text := []byte(strings.Repeat("a\r\n*\x00\xff", 3)[roll(9):])[:roll(9)]
	switch kind {
	case api.Status, api.Failure:
		return api.Reply{Kind: kind, S: strings.NewReplacer("\r", ".", "\n", ".").Replace(string(text))}
	case api.Number:
		return number((int64(roll(1<<30)) - 1<<29) << roll(35))
	case api.Bulk:
		return bulk(string(text))
	case api.Nil, api.NilList:
		return api.Reply{Kind: kind}
	}
	l := make([]api.Reply, roll(5))
	for i := range l {
		l[i] = rolledReply(roll, depth+1)
	}
	return list(l...)
}

// rolledReplies are so many replies.
func rolledReplies(seed uint64, n int) []api.Reply {
	roll := rolled(seed)
	l := make([]api.Reply, n)
	for i := range l {
		l[i] = rolledReply(roll, 0)
	}
	return l
}

// told is a reply, or as much of it as there is any use in telling.
func told(r api.Reply) string {
	return fmt.Sprintf("%.100q", fmt.Sprint(r))
}

// endOnFault keeps those who go through very many texts from telling all that is wrong.
func endOnFault(t *testing.T) {
	t.Helper()
	if t.Failed() {
		t.FailNow()
	}
}

func wantPut(t *testing.T, r api.Reply, want string, wantE api.Errno) {
	t.Helper()
	if s, e := resp.Put(r); s != want || e != wantE {
		t.Errorf("Put(%s) = %.80q (%d bytes), %d; want %.80q (%d bytes), %d", told(r), s, len(s), e, want, len(want), wantE)
	}
}

func TestP3_1_PutOfEachKind(t *testing.T) {
	for _, x := range short() {
		wantPut(t, x.r, x.bytes, api.OK)
	}
	for _, x := range long() {
		wantPut(t, x.r, x.bytes, api.OK)
	}
	for _, r := range rolledReplies(1, 20000) {
		wantPut(t, r, bytesOf(r), api.OK)
		endOnFault(t)
	}
}

func TestP3_1_PutOfNumbers(t *testing.T) {
	for n := int64(1); n != 0; n *= 2 {
		for d := int64(-1); d <= 1; d++ {
			wantPut(t, number(n+d), fmt.Sprintf(":%d\r\n", n+d), api.OK)
			wantPut(t, number(-n+d), fmt.Sprintf(":%d\r\n", -n+d), api.OK)
		}
	}
}

func TestP3_1_PutRefusesWhatIsOfNoKind(t *testing.T) {
	wantPut(t, api.Reply{}, "", api.ErrArg)
	for _, kind := range []int{0, 8, 9, -1, -4, 1 << 32, 1<<32 + api.Number, math.MaxInt, math.MinInt} {
		wantPut(t, api.Reply{Kind: kind}, "", api.ErrArg)
		wantPut(t, api.Reply{Kind: kind, S: "a"}, "", api.ErrArg)
		wantPut(t, api.Reply{Kind: kind, N: 1, S: "\r\n", L: []api.Reply{null}}, "", api.ErrArg)
		wantPut(t, list(null, list(api.Reply{Kind: kind})), "", api.ErrArg)
	}
}

// unnamed are fields that a reply may have, and the kinds that name them.
func unnamed() map[string]func(r *api.Reply) []int {
	return map[string]func(r *api.Reply) []int{
		"N 1":            func(r *api.Reply) []int { r.N = 1; return []int{api.Number} },
		"N -1":           func(r *api.Reply) []int { r.N = -1; return []int{api.Number} },
		"the least N":    func(r *api.Reply) []int { r.N = math.MinInt64; return []int{api.Number} },
		"N 2^32":         func(r *api.Reply) []int { r.N = 1 << 32; return []int{api.Number} },
		"S a":            func(r *api.Reply) []int { r.S = "a"; return []int{api.Status, api.Failure, api.Bulk} },
		"S of a byte 0":  func(r *api.Reply) []int { r.S = "\x00"; return []int{api.Status, api.Failure, api.Bulk} },
		"L of a number":  func(r *api.Reply) []int { r.L = []api.Reply{number(1)}; return []int{api.List} },
		"L of a list":    func(r *api.Reply) []int { r.L = []api.Reply{list()}; return []int{api.List} },
		"N and S":        func(r *api.Reply) []int { r.N, r.S = 1, "a"; return nil },
		"N and L":        func(r *api.Reply) []int { r.N, r.L = 1, []api.Reply{null}; return nil },
		"S and L":        func(r *api.Reply) []int { r.S, r.L = "a", []api.Reply{null}; return nil },
		"L of no kind":   func(r *api.Reply) []int { r.S, r.L = "a", []api.Reply{{}}; return nil },
		"N, S and L":     func(r *api.Reply) []int { r.N, r.S, r.L = 1, "a", []api.Reply{null}; return nil },
		"nothing":        func(r *api.Reply) []int { return []int{1, 2, 3, 4, 5, 6, 7} },
		"an L of length": func(r *api.Reply) []int { r.L = make([]api.Reply, 0, 3); return []int{1, 2, 3, 4, 5, 6, 7} },
	}
}

func TestP3_1_PutRefusesWhatAKindDoesNotName(t *testing.T) {
	for name, set := range unnamed() {
		for kind := api.Status; kind <= api.NilList; kind++ {
			r := api.Reply{Kind: kind}
			want, e := "", api.ErrArg
			if slices.Contains(set(&r), kind) {
				want, e = bytesOf(r), api.OK
			}
			if s, gotE := resp.Put(r); s != want || gotE != e {
				t.Errorf("Put of kind %d with %s = %q, %d; want %q, %d", kind, name, s, gotE, want, e)
			}
			if s, gotE := resp.Put(list(null, r)); gotE != e || e != api.OK && s != "" {
				t.Errorf("Put of a list with kind %d with %s = %q, %d; want %d", kind, name, s, gotE, e)
			}
		}
	}
}

func TestP3_1_PutRefusesLinesWithALinesEnd(t *testing.T) {
	for _, sep := range []string{"\r", "\n", "\r\n", "\n\r"} {
		for _, s := range []string{sep, "a" + sep, sep + "a", "ERR a" + sep + "b", "\xff" + sep + "\xff", strings.Repeat("a", 1000) + sep} {
			wantPut(t, status(s), "", api.ErrForm)
			wantPut(t, failure(s), "", api.ErrForm)
			wantPut(t, list(number(1), failure(s)), "", api.ErrForm)
			wantPut(t, within(8, status(s)), "", api.ErrForm)
			wantPut(t, bulk(s), bytesOf(bulk(s)), api.OK)
		}
	}
	for c := range 256 {
		s := string([]byte{'a', byte(c), 'b'})
		if c == 10 || c == 13 {
			wantPut(t, status(s), "", api.ErrForm)
			wantPut(t, failure(s), "", api.ErrForm)
			continue
		}
		wantPut(t, status(s), "+"+s+"\r\n", api.OK)
		wantPut(t, failure(s), "-"+s+"\r\n", api.OK)
	}
}

func TestP3_1_PutRefusesWhatIsAboveALimit(t *testing.T) {
	text := strings.Repeat("a", api.MaxBulk+2)
	wantPut(t, bulk(text[:api.MaxBulk]), "$1048576\r\n"+text[:api.MaxBulk]+"\r\n", api.OK)
	wantPut(t, bulk(text[:api.MaxBulk+1]), "", api.ErrLong)
	wantPut(t, bulk(text), "", api.ErrLong)
	wantPut(t, within(8, bulk(text)), "", api.ErrLong)
	wantPut(t, list(null, bulk(text), null), "", api.ErrLong)
	many := slices.Repeat([]api.Reply{null}, api.MaxList+2)
	wantPut(t, list(many[:api.MaxList]...), "*65536\r\n"+strings.Repeat("$-1\r\n", api.MaxList), api.OK)
	wantPut(t, list(many[:api.MaxList+1]...), "", api.ErrMany)
	wantPut(t, list(many...), "", api.ErrMany)
	wantPut(t, within(7, list(many...)), "", api.ErrMany)
	wantPut(t, list(null, list(many...), null), "", api.ErrMany)
}

func TestP3_1_PutRefusesWhatIsTooDeep(t *testing.T) {
	for depth := range 20 {
		inner := list(null)
		want, e := strings.Repeat("*1\r\n", depth+1)+"$-1\r\n", api.OK
		if depth >= 8 {
			want, e = "", api.ErrMany
		}
		wantPut(t, within(depth, inner), want, e)
	}
	wantPut(t, within(7, list()), strings.Repeat("*1\r\n", 7)+"*0\r\n", api.OK)
	wantPut(t, within(8, list()), "", api.ErrMany)
	wantPut(t, within(9, list()), "", api.ErrMany)
	wantPut(t, within(1<<16, null), "", api.ErrMany)
	// What its `*` alone may not do, as Take has it, a NilList may not do either: what is put is to be taken.
	wantPut(t, within(7, nullList), strings.Repeat("*1\r\n", 7)+"*-1\r\n", api.OK)
	wantPut(t, within(8, nullList), "", api.ErrMany)
	wantPut(t, within(8, null), strings.Repeat("*1\r\n", 8)+"$-1\r\n", api.OK)
	wantPut(t, list(within(7, null), within(8, null)), "", api.ErrMany)
	wantPut(t, list(within(7, null), null, within(7, null)), "*3\r\n"+strings.Repeat("*1\r\n", 7)+"$-1\r\n$-1\r\n"+strings.Repeat("*1\r\n", 7)+"$-1\r\n", api.OK)
}

func TestP3_1_PutTellsTheFirstFault(t *testing.T) {
	arg, form := api.Reply{Kind: api.Nil, N: 1}, status("\n")
	tooLong := bulk(strings.Repeat("a", api.MaxBulk+1))
	tooMany := list(make([]api.Reply, api.MaxList+1)...)
	faulty := map[api.Errno]api.Reply{api.ErrArg: arg, api.ErrForm: form, api.ErrLong: tooLong, api.ErrMany: tooMany}
	for e, r := range faulty {
		wantPut(t, r, "", e)
		for _, later := range faulty {
			wantPut(t, list(r, later), "", e)
			wantPut(t, list(null, list(bulk("a"), r), later), "", e)
			wantPut(t, list(list(list(r)), later), "", e)
			wantPut(t, within(7, list(null, r, later)), "", e)
		}
	}
	// A list's own fault comes ahead of what is within it.
	for _, r := range faulty {
		wantPut(t, api.Reply{Kind: api.List, N: 1, L: []api.Reply{r}}, "", api.ErrArg)
		wantPut(t, api.Reply{Kind: api.List, S: "\n", L: []api.Reply{r}}, "", api.ErrArg)
		wantPut(t, within(8, list(r)), "", api.ErrMany)
		wantPut(t, list(append([]api.Reply{r}, tooMany.L...)...), "", api.ErrMany)
	}
	// Of one reply the fault that is named first.
	wantPut(t, api.Reply{Kind: api.Status, N: 1, S: "\n"}, "", api.ErrArg)
	wantPut(t, api.Reply{Kind: api.Failure, S: "\r", L: []api.Reply{null}}, "", api.ErrArg)
	wantPut(t, api.Reply{Kind: api.Bulk, N: 1, S: tooLong.S}, "", api.ErrArg)
	wantPut(t, api.Reply{Kind: api.Number, S: tooLong.S}, "", api.ErrArg)
	wantPut(t, api.Reply{Kind: api.List, N: 1, L: tooMany.L}, "", api.ErrArg)
	wantPut(t, within(8, api.Reply{Kind: api.List, S: "a"}), "", api.ErrArg)
	wantPut(t, within(8, api.Reply{Kind: api.NilList, N: 1}), "", api.ErrArg)
	wantPut(t, within(8, tooMany), "", api.ErrMany)
}

// walk goes through a text byte by byte, as the document's words tell a reply's bytes.
type walk struct {
	line string // the line so far
	body int    // how many bytes of a Bulk and its line's end are to come
	left []int  // of each list that is open, how many replies are to come
}

var (
	textLine   = regexp.MustCompile(`\A[+-][^\r\n]*(\r\n?)?\z`)
	numberLine = regexp.MustCompile(`\A:(-|(0|-?[1-9][0-9]*)(\r\n?)?)?\z`)
	countLine  = regexp.MustCompile(`\A[$*](-|(-1|0|[1-9][0-9]*)(\r\n?)?)?\z`)
)

// step goes one byte on: whether that is a reply's last one, and its fault.
func (w *walk) step(c byte) (bool, api.Errno) {
	if w.body > 0 {
		w.body--
		if w.body == 1 && c != '\r' || w.body == 0 && c != '\n' {
			return false, api.ErrForm
		}
		return w.body == 0 && w.close(), api.OK
	}
	w.line += string([]byte{c})
	n, e := w.lineFault()
	if e != api.OK || !strings.HasSuffix(w.line, "\r\n") {
		return false, e
	}
	sign := w.line[0]
	w.line = ""
	if sign == '$' && n >= 0 {
		w.body = n + 2
		return false, api.OK
	}
	if sign == '*' && n > 0 {
		w.left = append(slices.Clone(w.left), n)
		return false, api.OK
	}
	return w.close(), api.OK
}

// lineFault tells the number of the line so far, and its fault.
func (w *walk) lineFault() (int, api.Errno) {
	sign := w.line[0]
	if sign == '*' && len(w.left) == 8 {
		return 0, api.ErrMany
	}
	if !textLine.MatchString(w.line) && !numberLine.MatchString(w.line) && !countLine.MatchString(w.line) {
		return 0, api.ErrForm
	}
	if sign == '+' || sign == '-' {
		return 0, api.OK
	}
	n, _ := new(big.Int).SetString(strings.TrimRight(w.line[1:], "\r\n"), 10)
	switch {
	case n == nil:
	case sign == ':' && !n.IsInt64():
		return 0, api.ErrForm
	case sign == '$' && n.Cmp(big.NewInt(1<<20)) > 0:
		return 0, api.ErrLong
	case sign == '*' && n.Cmp(big.NewInt(1<<16)) > 0:
		return 0, api.ErrMany
	default:
		return int(n.Int64()), api.OK
	}
	return 0, api.OK
}

// close ends a reply, and each list whose last one it is: whether nothing is to come.
func (w *walk) close() bool {
	w.left = slices.Clone(w.left)
	for len(w.left) > 0 {
		last := len(w.left) - 1
		w.left[last]--
		if w.left[last] > 0 {
			return false
		}
		w.left = w.left[:last]
	}
	return true
}

// meant is what the document's words make of a text: of how many bytes the reply is with which it begins.
func meant(s string) (int, api.Errno) {
	var w walk
	for i := range len(s) {
		done, e := w.step(s[i])
		if e != api.OK {
			return 0, e
		}
		if done {
			return i + 1, api.OK
		}
	}
	return 0, api.ErrShort
}

func wantTaken(t *testing.T, s string, n int, e api.Errno) {
	t.Helper()
	r, gotN, gotE := resp.Take(s)
	if gotN != n || gotE != e {
		t.Errorf("Take(%.120q) = %d bytes, %d; want %d, %d", s, gotN, gotE, n, e)
		return
	}
	if e != api.OK && !reflect.DeepEqual(r, api.Reply{}) {
		t.Errorf("Take(%.120q) = %s beside %d", s, told(r), e)
	}
	if e == api.OK && (bytesOf(r) != s[:n] || !alike(r, tidy(r))) {
		t.Errorf("Take(%.120q) = %s", s, told(r))
	}
}

// tidy is a reply without what its kind does not name.
func tidy(r api.Reply) api.Reply {
	switch r.Kind {
	case api.Status, api.Failure, api.Bulk:
		return api.Reply{Kind: r.Kind, S: r.S}
	case api.Number:
		return number(r.N)
	case api.Nil, api.NilList:
		return api.Reply{Kind: r.Kind}
	}
	l := slices.Clone(r.L)
	for i := range l {
		l[i] = tidy(l[i])
	}
	return list(l...)
}

// tails are what may stand behind a reply.
func tails() []string {
	return []string{"", "x", "\r\n", "\n", "+OK\r\n", ":1\r\n", "*", "$-1\r\n", "0", "\x00\xff"}
}

func wantTake(t *testing.T, x known, tail string) {
	t.Helper()
	r, n, e := resp.Take(x.bytes + tail)
	if !alike(r, x.r) || n != len(x.bytes) || e != api.OK {
		t.Errorf("Take(%.120q) = %s, %d, %d; want %s, %d", x.bytes+tail, told(r), n, e, told(x.r), len(x.bytes))
	}
}

func TestP3_2_TakeOfEachKind(t *testing.T) {
	for _, x := range append(short(), long()...) {
		for _, tail := range tails() {
			wantTake(t, x, tail)
		}
	}
}

func TestP3_2_TakeOfFaults(t *testing.T) {
	deep := strings.Repeat("*1\r\n", 8)
	for s, e := range map[string]api.Errno{
		"": api.ErrShort, "+": api.ErrShort, "-": api.ErrShort, ":": api.ErrShort, "$": api.ErrShort, "*": api.ErrShort,
		"x": api.ErrForm, " ": api.ErrForm, "\r": api.ErrForm, "\n": api.ErrForm, "\r\n": api.ErrForm, "0": api.ErrForm, "\x00": api.ErrForm, "\xff": api.ErrForm, "PING\r\n": api.ErrForm,
		"+a\n": api.ErrForm, "+\n": api.ErrForm, "+a\rb": api.ErrForm, "+\r\r": api.ErrForm, "+a\r\r\n": api.ErrForm, "-a\n": api.ErrForm, "-a\rb\r\n": api.ErrForm, "-\n\r\n": api.ErrForm, "+a\nb\r\n": api.ErrForm,
		"+a\r": api.ErrShort, "-a": api.ErrShort, "-\r": api.ErrShort, "+" + strings.Repeat("a", 1<<21): api.ErrShort,
		":\r": api.ErrForm, ":\n": api.ErrForm, ":+1\r\n": api.ErrForm, ":-\r\n": api.ErrForm, ":--1": api.ErrForm, ":-0": api.ErrForm, ":00": api.ErrForm, ":007\r\n": api.ErrForm, ":0a": api.ErrForm, ": 1": api.ErrForm, ":1 ": api.ErrForm, ":1-": api.ErrForm,
		":1\n": api.ErrForm, ":1\r1": api.ErrForm, ":1\r\r": api.ErrForm, ":a": api.ErrForm, ":1.5": api.ErrForm, ":1/": api.ErrForm, ":1:": api.ErrForm,
		":-": api.ErrShort, ":0": api.ErrShort, ":-1": api.ErrShort, ":1\r": api.ErrShort, ":9223372036854775807": api.ErrShort, ":-9223372036854775808": api.ErrShort,
		":9223372036854775808": api.ErrForm, ":-9223372036854775809": api.ErrForm, ":92233720368547758070": api.ErrForm, ":-92233720368547758080\r\n": api.ErrForm, ":9300000000000000000\r\n": api.ErrForm, ":18446744073709551617\r\n": api.ErrForm, ":99999999999999999999999999999999999999999\r\n": api.ErrForm,
		"$\r": api.ErrForm, "$\n": api.ErrForm, "$a": api.ErrForm, "$+1": api.ErrForm, "$ 1": api.ErrForm, "$01": api.ErrForm, "$00": api.ErrForm, "$0a": api.ErrForm, "$1a": api.ErrForm, "$1\n": api.ErrForm, "$1\ra": api.ErrForm, "$0\r\r": api.ErrForm,
		"$-0": api.ErrForm, "$-2": api.ErrForm, "$-9": api.ErrForm, "$--": api.ErrForm, "$-a": api.ErrForm, "$-\r\n": api.ErrForm, "$-10": api.ErrForm, "$-11": api.ErrForm, "$-1a": api.ErrForm, "$-1\n": api.ErrForm, "$-1\ra": api.ErrForm, "$-9999999": api.ErrForm, "$-99999999999999999999": api.ErrForm, "$01048577": api.ErrForm,
		"$-": api.ErrShort, "$-1": api.ErrShort, "$-1\r": api.ErrShort, "$0": api.ErrShort, "$0\r\n": api.ErrShort, "$0\r\n\r": api.ErrShort, "$1\r\n": api.ErrShort, "$1\r\n\r": api.ErrShort, "$2\r\n\r\n": api.ErrShort, "$2\r\n\r\n\r": api.ErrShort, "$1048576": api.ErrShort, "$104857": api.ErrShort, "$1048576\r\na": api.ErrShort,
		"$0\r\na": api.ErrForm, "$0\r\n\n": api.ErrForm, "$0\r\n\r\r": api.ErrForm, "$1\r\nab": api.ErrForm, "$1\r\na\n": api.ErrForm, "$1\r\na\ra": api.ErrForm, "$1\r\n\r\n": api.ErrForm, "$2\r\nabc\r\n": api.ErrForm,
		"$1048577": api.ErrLong, "$1048577\r\n": api.ErrLong, "$1048580": api.ErrLong, "$1048577x": api.ErrLong, "$10485760": api.ErrLong, "$1048576x": api.ErrForm, "$2000000": api.ErrLong, "$9999999": api.ErrLong, "$999999x": api.ErrForm, "$9999999x": api.ErrLong, "$99999999999999999999999999": api.ErrLong, "$18446744073709551617\r\na\r\n": api.ErrLong, "$9223372036854775808": api.ErrLong,
		"*\r": api.ErrForm, "*a": api.ErrForm, "*+1": api.ErrForm, "* 1": api.ErrForm, "*01": api.ErrForm, "*00": api.ErrForm, "*1a": api.ErrForm, "*1\n": api.ErrForm, "*1\ra": api.ErrForm,
		"*-0": api.ErrForm, "*-2": api.ErrForm, "*--": api.ErrForm, "*-\r\n": api.ErrForm, "*-10": api.ErrForm, "*-1a": api.ErrForm, "*-1\n": api.ErrForm, "*-65537": api.ErrForm, "*065537": api.ErrForm,
		"*-": api.ErrShort, "*-1": api.ErrShort, "*-1\r": api.ErrShort, "*0": api.ErrShort, "*0\r": api.ErrShort, "*1\r\n": api.ErrShort, "*2\r\n:1\r\n": api.ErrShort, "*65536": api.ErrShort, "*65536\r\n": api.ErrShort, "*65536\r\n:1\r\n:1": api.ErrShort, "*65535\r\n": api.ErrShort,
		"*65537": api.ErrMany, "*65537\r\n": api.ErrMany, "*65540": api.ErrMany, "*65537x": api.ErrMany, "*65536x": api.ErrForm, "*70000": api.ErrMany, "*655360": api.ErrMany, "*99999": api.ErrMany, "*9999x": api.ErrForm, "*99999x": api.ErrMany, "*18446744073709551617\r\n": api.ErrMany, "*9223372036854775808": api.ErrMany,
		"*1\r\nx": api.ErrForm, "*1\r\n\r\n": api.ErrForm, "*2\r\n:1\r\nx": api.ErrForm, "*2\r\n:1\r\n\r\n": api.ErrForm, "*2\r\n:01\r\nx": api.ErrForm, "*2\r\n$1048577\r\n*65537\r\n": api.ErrLong, "*2\r\n*65537\r\n$1048577\r\n": api.ErrMany, "*2\r\n+\n$1048577": api.ErrForm,
		deep: api.ErrShort, deep + ":": api.ErrShort, deep + "$": api.ErrShort, deep + "*": api.ErrMany, deep + "*x": api.ErrMany, deep + "*0\r\n": api.ErrMany, deep + "*1\r\n": api.ErrMany, deep + "*-1\r\n": api.ErrMany, deep + "x": api.ErrForm, deep + "$1048577": api.ErrLong,
		deep[4:] + "*": api.ErrShort, deep[4:] + "*65537": api.ErrMany, deep[4:] + "*x": api.ErrForm, deep[4:] + "*2\r\n:1\r\n*": api.ErrMany,
		strings.Repeat("*1\r\n", 1<<16): api.ErrMany, strings.Repeat("*65536\r\n", 8): api.ErrShort, strings.Repeat("*65536\r\n", 9): api.ErrMany,
		"*2\r\n" + deep[4:] + ":1\r\n" + deep[4:] + ":1\r": api.ErrShort, "*2\r\n" + deep[4:] + ":1\r\n" + deep[4:] + "*": api.ErrMany,
	} {
		wantTaken(t, s, 0, e)
	}
}

// further goes on with a text, by each of some bytes, for as long as that is a beginning.
func further(t *testing.T, s string, w walk, alphabet string, more int) {
	for i := range len(alphabet) {
		endOnFault(t)
		next, then := s+alphabet[i:i+1], w
		done, e := then.step(alphabet[i])
		switch {
		case done:
			wantTaken(t, next, len(next), api.OK)
			wantTaken(t, next+"x", len(next), api.OK)
		case e != api.OK:
			wantTaken(t, next, 0, e)
			wantTaken(t, next+":1\r\n", 0, e)
		default:
			wantTaken(t, next, 0, api.ErrShort)
			if more > 1 {
				further(t, next, then, alphabet, more-1)
			}
		}
	}
}

func TestP3_2_TakeOfAllShortTexts(t *testing.T) {
	deep := strings.Repeat("*1\r\n", 7)
	for stem, more := range map[string]int{
		"": 7, "$": 7, "*": 7, ":": 6, "$1\r\n": 6, "$2\r\n": 5, "*1\r\n": 5, "*2\r\n$0\r\n": 5, "*2\r\n*0\r\n": 6, "*2\r\n*1\r\n": 5,
		deep: 5, deep + "*1\r\n": 5, "*2\r\n" + deep + ":1\r\n": 5, "+\xff": 4, "-ERR": 4,
	} {
		var w walk
		for i := range len(stem) {
			w.step(stem[i])
		}
		further(t, stem, w, "+-:$*012\r\na", more)
	}
}

func TestP3_2_TakeBesideTheLimits(t *testing.T) {
	for _, stem := range []string{
		":92233720368547758", ":-92233720368547758", "$10485", "$9999", "*655", "*999", ":-", "$-", "*-", "$", "*1\r\n$104857", "*2\r\n:1\r\n*6553", "$104857", "*6553", ":922337203685477580", ":-922337203685477580",
	} {
		var w walk
		for i := range len(stem) {
			w.step(stem[i])
		}
		further(t, stem, w, "0123456789\r\nx-", 3)
	}
}

func TestP3_2_TakeWithEachByteInEachPlace(t *testing.T) {
	for _, x := range short() {
		for place := range len(x.bytes) + 1 {
			endOnFault(t)
			for c := range 256 {
				put := x.bytes[:place] + string([]byte{byte(c)}) + x.bytes[place:]
				n, e := meant(put)
				wantTaken(t, put, n, e)
				if place == len(x.bytes) {
					continue
				}
				other := put[:place+1] + put[place+2:]
				n, e = meant(other)
				wantTaken(t, other, n, e)
			}
		}
		for place := range len(x.bytes) {
			less := x.bytes[:place] + x.bytes[place+1:]
			n, e := meant(less)
			wantTaken(t, less, n, e)
		}
	}
}

func TestP3_2_TakeTellsTheFirstFault(t *testing.T) {
	faulty := map[string]api.Errno{"x": api.ErrForm, ":01": api.ErrForm, "$-0": api.ErrForm, "+\n": api.ErrForm, "$1048577": api.ErrLong, "*65537": api.ErrMany, "$0\r\na": api.ErrForm}
	for s, e := range faulty {
		for later := range faulty {
			wantTaken(t, s+later, 0, e)
			wantTaken(t, "*2\r\n"+s+"\r\n"+later, 0, e)
			wantTaken(t, "*3\r\n*1\r\n:1\r\n"+s+later, 0, e)
			wantTaken(t, "*2\r\n$"+fmt.Sprint(len(later))+"\r\n"+later+"\r\n"+s, 0, e)
		}
	}
}

// each are replies of which no two are the same: they differ in one field, in a list's length, in its order, in what is deep in it.
func each() []api.Reply {
	l := []api.Reply{
		{}, {N: 1}, {S: "a"}, {L: []api.Reply{{}}}, {Kind: 8}, {Kind: -1}, {Kind: math.MinInt},
		{Kind: api.Nil, N: 1}, {Kind: api.Nil, S: "a"}, {Kind: api.Nil, L: []api.Reply{null}}, {Kind: api.NilList, L: []api.Reply{null}},
		{Kind: api.Number, N: 5, S: "a"}, {Kind: api.Bulk, N: 1, S: "a"}, {Kind: api.List, N: 1}, {Kind: api.List, S: "a"},
		status("ok"), status("OK "), failure("OK"), bulk("OK"), bulk("A"), bulk("a\x00"), number(1 << 32), number(7),
		list(null, nullList), list(nullList, null), list(null), list(null, null), list(list(null)), list(list(), null), list(null, list()),
		list(bulk("a"), number(6)), list(number(5), bulk("a")), list(bulk("a"), number(5), null),
		within(9, null), within(10, null), within(1000, null), within(1000, nullList), within(1000, list()),
	}
	for _, x := range append(short(), long()...) {
		l = append(l, x.r)
	}
	return l
}

func wantSame(t *testing.T, a, b api.Reply, want bool) {
	t.Helper()
	if resp.Same(a, b) != want {
		t.Errorf("Same(%s, %s) = %v", told(a), told(b), !want)
	}
}

func TestP3_3_Same(t *testing.T) {
	one, other := each(), each()
	for i := range one {
		for j := range other {
			wantSame(t, one[i], other[j], i == j)
		}
	}
	one, other = rolledReplies(2, 400), rolledReplies(2, 400)
	for i := range one {
		endOnFault(t)
		for j := range other {
			wantSame(t, one[i], other[j], alike(one[i], other[j]))
		}
	}
}

func TestP3_3_SameOfListsWithNothing(t *testing.T) {
	none := []api.Reply{}
	for kind := -1; kind <= 8; kind++ {
		a, b := api.Reply{Kind: kind}, api.Reply{Kind: kind, L: none}
		wantSame(t, a, b, true)
		wantSame(t, b, a, true)
		wantSame(t, list(a, null), list(b, null), true)
	}
	wantSame(t, within(1<<16, null), within(1<<16, null), true)
	wantSame(t, within(1<<16, null), within(1<<16-1, null), false)
	wantSame(t, within(1<<16, null), within(1<<16, nullList), false)
}

func wantReply(t *testing.T, what string, got, want api.Reply) {
	t.Helper()
	if !alike(got, want) {
		t.Errorf("%s = %s; want %s", what, told(got), told(want))
	}
	if !resp.Same(got, want) {
		t.Errorf("%s is not the same as %s", what, told(want))
	}
}

func TestP3_3_RepliesThatAreMade(t *testing.T) {
	wantReply(t, "OK", resp.OK(), api.Reply{Kind: api.Status, S: "OK"})
	big := strings.Repeat("\r\n", api.MaxBulk)
	for _, s := range []string{"", "a", "ERR no such key", "\r\n", "\x00\xff", big} {
		wantReply(t, "Fail", resp.Fail(s), api.Reply{Kind: api.Failure, S: s})
		wantReply(t, "Text", resp.Text(s), api.Reply{Kind: api.Bulk, S: s})
	}
	for _, n := range []int64{0, 1, -1, 10, math.MaxInt64, math.MinInt64} {
		wantReply(t, "Int", resp.Int(n), api.Reply{Kind: api.Number, N: n})
	}
}

func TestP3_3_ListsThatAreMade(t *testing.T) {
	wantReply(t, "Many()", resp.Many(), list())
	wantReply(t, "Many(nil)", resp.Many([]api.Reply(nil)...), list())
	wantReply(t, "Many(Nil)", resp.Many(null), list(null))
	all := each()
	wantReply(t, "Many(all)", resp.Many(all...), list(each()...))
	many := slices.Repeat([]api.Reply{number(1)}, api.MaxList+1)
	wantReply(t, "Many(many)", resp.Many(many...), list(many...))
	wantReply(t, "Many of what is deep", resp.Many(within(1<<16, null)), within(1<<16+1, null))

	wantReply(t, "Texts()", resp.Texts(), list())
	wantReply(t, "Texts(nil)", resp.Texts([]string(nil)...), list())
	wantReply(t, "Texts of nothing", resp.Texts(""), list(bulk("")))
	wantReply(t, "Texts(b, a, b)", resp.Texts("b", "a", "b", "\r\n"), list(bulk("b"), bulk("a"), bulk("b"), bulk("\r\n")))
	wantReply(t, "Texts of many", resp.Texts(make([]string, api.MaxList+1)...), list(slices.Repeat([]api.Reply{bulk("")}, api.MaxList+1)...))
}

func TestP3_3_ManyIsNewMemory(t *testing.T) {
	room := []api.Reply{list(number(1), list(number(2)), number(3))}
	l := append(make([]api.Reply, 0, 8), number(0), list(room[0].L[:2]...), list(room[0].L[:2]...))
	got := resp.Many(l...)
	want := resp.Many(l...)
	l[0].N, l[1].L[0].N, l[1].L[1].L[0].N = 7, 8, 9
	wantReply(t, "Many, when what came in has changed", got, want)

	got.L[1].L[0].N = 5
	got.L[1].L[1].L[0].N = 6
	_ = append(got.L, number(4))
	_ = append(got.L[1].L, number(4))
	wantReply(t, "what came in, when Many's has changed", room[0], list(number(8), list(number(9)), number(3)))
	wantReply(t, "another one, when Many's has changed", got.L[2], list(number(1), list(number(2))))
	if l[:4][3].Kind != 0 {
		t.Error("Many's answer has the spare room of what came in")
	}
}

func TestP3_4_WhatIsPutIsTaken(t *testing.T) {
	var l []api.Reply
	for _, x := range append(short(), long()...) {
		l = append(l, x.r)
	}
	behind := tails()
	for i, r := range append(l, rolledReplies(3, 30000)...) {
		s, e := resp.Put(r)
		if e != api.OK {
			t.Fatalf("Put(%s): %d", told(r), e)
		}
		got, n, e := resp.Take(s + behind[i%len(behind)])
		if !resp.Same(got, r) || !alike(got, r) || n != len(s) || e != api.OK {
			t.Fatalf("Take of what Put tells of %s = %s, %d, %d", told(r), told(got), n, e)
		}
	}
}

func TestP3_4_WhatIsTakenIsPutSo(t *testing.T) {
	roll := rolled(4)
	pieces := []string{"+", "-", ":", "$", "*", "0", "1", "2", "\r\n", "a", "-1", ":1\r\n", "$1\r\na\r\n", "*1\r\n", "*2\r\n", "*-1\r\n", "$-1\r\n", "+OK\r\n", "$0\r\n\r\n", "*0\r\n"}
	taken := 0
	for range 300000 {
		var b strings.Builder
		for range roll(6) + 1 {
			b.WriteString(pieces[roll(len(pieces))])
		}
		s := b.String()
		r, n, e := resp.Take(s)
		if e != api.OK {
			continue
		}
		taken++
		if put, e := resp.Put(r); put != s[:n] || e != api.OK {
			t.Fatalf("Take(%q) = %s, whose Put is %q, %d", s, told(r), put, e)
		}
	}
	if taken < 10000 {
		t.Errorf("only %d replies were taken", taken)
	}
}

func TestP3_4_RepliesOneBehindTheOther(t *testing.T) {
	var all strings.Builder
	l := rolledReplies(5, 1000)
	for _, r := range l {
		s, _ := resp.Put(r)
		all.WriteString(s)
	}
	rest := all.String()
	for i, r := range l {
		got, n, e := resp.Take(rest)
		if !alike(got, r) || e != api.OK {
			t.Fatalf("reply %d is taken as %s, %d; want %s", i, told(got), e, told(r))
		}
		rest = rest[n:]
	}
	if rest != "" {
		t.Errorf("%q is left", rest)
	}
}

func TestP3_5_WhatIsCutOffIsShort(t *testing.T) {
	for _, x := range short() {
		for n := range len(x.bytes) {
			wantTaken(t, x.bytes[:n], 0, api.ErrShort)
		}
	}
	for _, r := range rolledReplies(6, 3000) {
		endOnFault(t)
		s, _ := resp.Put(r)
		for n := range len(s) {
			wantTaken(t, s[:n], 0, api.ErrShort)
		}
	}
	for _, x := range long() {
		end := len(x.bytes)
		for _, n := range []int{1, 2, 5, 8, 9, 10, 11, 1000, end / 2, end - 7, end - 6, end - 5, end - 4, end - 3, end - 2, end - 1} {
			wantTaken(t, x.bytes[:n], 0, api.ErrShort)
		}
	}
}

func TestEx3_ListOfATextAndANumber(t *testing.T) {
	s, e := resp.Put(resp.Many(resp.Text("a"), resp.Int(5)))
	if s != "*2\r\n$1\r\na\r\n:5\r\n" || e != api.OK {
		t.Errorf("%q, %d", s, e)
	}
}

func TestWhatIsHandedInStays(t *testing.T) {
	room := append(make([]api.Reply, 0, 4), bulk("a"), list(number(1)))
	r := api.Reply{Kind: api.List, L: room}
	resp.Put(r)
	resp.Same(r, r)
	resp.Put(list(r, api.Reply{}))
	texts := append(make([]string, 0, 2), "a")
	_ = append(resp.Texts(texts...).L, null)
	if !alike(r, list(bulk("a"), list(number(1)))) || room[:3][2].Kind != 0 || texts[:2][1] != "" || texts[0] != "a" {
		t.Error("what was handed in has changed")
	}
}
