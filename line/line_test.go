package line_test

import (
	"fmt"
	"regexp"
	"slices"
	"strconv"
	"strings"
	"testing"

	"mews/line"
)

const (
	// double is what stands within `"`, single what stands within `'`, up to what closes them: a `\` of a whole run is a turn's just if it is the last one ahead of a `'`.
	double = `(?:[^"\\]|\\.)*`
	single = `(?:[^'\\]|\\+[^\\])*`
	quotes = `(?:"` + double + `"|'` + single + `')`
	// argument is one with right quotes, which are its last part, as nothing of it may stand behind them.
	argument = `(?:[^ \t"']+` + quotes + `?|` + quotes + `)`
)

var (
	lineOf     = regexp.MustCompile(`(?s)\A[ \t]*(?:` + argument + `(?:[ \t]+` + argument + `)*)?[ \t]*\z`)
	argumentOf = regexp.MustCompile(`(?s)` + argument)
	partsOf    = regexp.MustCompile(`(?s)\A([^"']*)(?:"(.*)"|'(.*)')?\z`)
	turnOf     = regexp.MustCompile(`(?s)\\x[0-9a-fA-F]{2}|\\.`)
	plainOf    = regexp.MustCompile(`\A[!#-&(-\[\]-~]+\z`)
)

// named are the turns with a letter.
var named = map[string]string{"n": "\n", "r": "\r", "t": "\t", "b": "\b", "a": "\a"}

// wide has a rune for each byte, as package regexp goes rune by rune.
func wide(s string) string {
	l := make([]rune, len(s))
	for i := range len(s) {
		l[i] = rune(s[i])
	}
	return string(l)
}

// narrow undoes wide.
func narrow(s string) string {
	var b []byte
	for _, r := range s {
		b = append(b, byte(r))
	}
	return string(b)
}

// turned is the byte, made wide, that a turn between `"` is.
func turned(turn string) string {
	if len(turn) == 4 && turn[1] == 'x' {
		n, _ := strconv.ParseUint(turn[2:], 16, 8)
		return string(rune(n))
	}
	if s, ok := named[turn[1:]]; ok {
		return s
	}
	return turn[1:]
}

// meantArgument is what an argument with right quotes says, both made wide.
func meantArgument(raw string) string {
	parts := partsOf.FindStringSubmatch(raw)
	return parts[1] + turnOf.ReplaceAllStringFunc(parts[2], turned) + strings.ReplaceAll(parts[3], `\'`, `'`)
}

// meant are a line's arguments, as the document's words say it.
func meant(s string) ([]string, bool) {
	s = wide(s)
	if !lineOf.MatchString(s) {
		return nil, false
	}
	var l []string
	for _, raw := range argumentOf.FindAllString(s, -1) {
		l = append(l, narrow(meantArgument(raw)))
	}
	return l, true
}

// meantJoined is one argument in a line, as the document's words say it.
func meantJoined(arg string) string {
	if plainOf.MatchString(wide(arg)) {
		return arg
	}
	var b strings.Builder
	for _, c := range []byte(arg) {
		switch {
		case c == '"' || c == '\\':
			fmt.Fprintf(&b, `\%c`, c)
		case c < 32 || c > 126:
			fmt.Fprintf(&b, `\x%02x`, c)
		default:
			b.WriteByte(c)
		}
	}
	return `"` + b.String() + `"`
}

// texts are all of up to so many bytes, made of an alphabet.
func texts(alphabet string, most int) []string {
	all := []string{""}
	last := all
	for range most {
		var next []string
		for _, s := range last {
			for i := range len(alphabet) {
				next = append(next, s+alphabet[i:i+1])
			}
		}
		all = append(all, next...)
		last = next
	}
	return all
}

// eachByte are the 256 texts of one byte.
func eachByte() []string {
	var l []string
	for c := range 256 {
		l = append(l, string([]byte{byte(c)}))
	}
	return l
}

// rolled gives numbers without a pattern to them, the same ones each time.
func rolled(seed uint64) func(below int) int {
	return func(below int) int {
		seed = seed*6364136223846793005 + 1442695040888963407
		return int(seed>>33) % below
	}
}

// rolledText is a text of fewer than so many bytes of an alphabet.
func rolledText(roll func(int) int, alphabet string, most int) string {
	b := make([]byte, roll(most))
	for i := range b {
		b[i] = alphabet[roll(len(alphabet))]
	}
	return string(b)
}

// rolledTexts are fewer than so many texts.
func rolledTexts(roll func(int) int, alphabet string, most int) []string {
	l := make([]string, roll(most))
	for i := range l {
		l[i] = rolledText(roll, alphabet, most)
	}
	return l
}

// allBytes is the text of all bytes, rising.
func allBytes() string { return strings.Join(eachByte(), "") }

// short tells a list, but not a very long one's whole text.
func short(l []string) string {
	s := fmt.Sprintf("%d %q", len(l), l[:min(len(l), 8)])
	return s[:min(len(s), 200)]
}

func wantSplit(t *testing.T, s string, want []string, ok bool) {
	t.Helper()
	if got, gotOK := line.Split(s); !slices.Equal(got, want) || gotOK != ok {
		t.Errorf("Split(%.80q) = %s, %v; want %s, %v", s, short(got), gotOK, short(want), ok)
	}
}

func wantJoin(t *testing.T, want string, l ...string) {
	t.Helper()
	if got := line.Join(l...); got != want {
		t.Errorf("Join(%s) = %.120q; want %.120q", short(l), got, want)
	}
}

// endOnFault keeps those who go through very many texts from telling all that is wrong.
func endOnFault(t *testing.T) {
	t.Helper()
	if t.Failed() {
		t.FailNow()
	}
}

// splitting is a line, with its arguments.
type splitting struct {
	s    string
	want []string
}

func wantSplits(t *testing.T, l []splitting) {
	t.Helper()
	for _, x := range l {
		wantSplit(t, x.s, x.want, true)
	}
}

func wantNotRight(t *testing.T, l ...string) {
	t.Helper()
	for _, s := range l {
		wantSplit(t, s, nil, false)
	}
}

func TestP4_1_SplitAtBlanks(t *testing.T) {
	wantSplits(t, []splitting{
		{``, nil},
		{` `, nil},
		{"\t", nil},
		{" \t\t  \t ", nil},
		{`a`, []string{"a"}},
		{`GET key`, []string{"GET", "key"}},
		{`SET key value`, []string{"SET", "key", "value"}},
		{`  SET   key    value  `, []string{"SET", "key", "value"}},
		{"\tSET\tkey\t\tvalue\t", []string{"SET", "key", "value"}},
		{" \t SET\t key \tvalue\t ", []string{"SET", "key", "value"}},
		{`a a a`, []string{"a", "a", "a"}},
		{`#comment *3 $5 ; , =`, []string{"#comment", "*3", "$5", ";", ",", "="}},
		{`SET a"b c" '' `, []string{"SET", "ab c", ""}},
	})
}

func TestP4_1_OtherBytesAreNoBlanks(t *testing.T) {
	wantSplits(t, []splitting{
		{"a\nb", []string{"a\nb"}},
		{"a\rb", []string{"a\rb"}},
		{"a\x00b", []string{"a\x00b"}},
		{"a\vb\fc", []string{"a\vb\fc"}},
		{"\n", []string{"\n"}},
		{"\r\n", []string{"\r\n"}},
		{"\x00", []string{"\x00"}},
		{"a \n b", []string{"a", "\n", "b"}},
		{"PING\r", []string{"PING\r"}},
		{"PING\r\n", []string{"PING\r\n"}},
		{"PING \r\n", []string{"PING", "\r\n"}},
		{"PING \x00 a", []string{"PING", "\x00", "a"}},
		{"\x00 a\x00", []string{"\x00", "a\x00"}},
		{"a\u00a0b \u2003 \u0085", []string{"a\u00a0b", "\u2003", "\u0085"}},
		{"\"a\nb\r\x00\"", []string{"a\nb\r\x00"}},
		{"'a\nb\r\x00' \n", []string{"a\nb\r\x00", "\n"}},
	})
	wantNotRight(t, "\"a\"\n", "\"a\"\r", "\"a\"\r\n", "'a'\r\n", "'a'\x00", "\"a\"\x00", "\"a\"\v", "\"a\"\u00a0", "\"a\n", "'a\n")
}

func TestP4_1_EmptyArguments(t *testing.T) {
	for _, q := range []string{`""`, `''`} {
		wantSplits(t, []splitting{
			{q, []string{""}},
			{" " + q + "\t", []string{""}},
			{q + " a", []string{"", "a"}},
			{"a " + q, []string{"a", ""}},
			{"a " + q + " b", []string{"a", "", "b"}},
			{q + " " + q, []string{"", ""}},
			{q + " " + q + "\t" + q, []string{"", "", ""}},
			{`"" ` + q + ` ''`, []string{"", "", ""}},
			{"a" + q, []string{"a"}},
			{"a" + q + " " + q, []string{"a", ""}},
		})
		wantNotRight(t, q+q, q+"a", q+`"`, q+`'`, q+`\`, q+q+q)
	}
}

func TestP4_1_QuotesKeepWhatIsBetween(t *testing.T) {
	wantSplits(t, []splitting{
		{`"a b"`, []string{"a b"}},
		{`'a b'`, []string{"a b"}},
		{"\" \t a\t \"", []string{" \t a\t "}},
		{"' \t a\t '", []string{" \t a\t "}},
		{`"abc" 'abc' abc`, []string{"abc", "abc", "abc"}},
		{`SET "a b" 'c d'`, []string{"SET", "a b", "c d"}},
		{"\"a\"\t'b'", []string{"a", "b"}},
		{`"# $ *"`, []string{"# $ *"}},
		// Of the other kind.
		{`"'"`, []string{`'`}},
		{`'"'`, []string{`"`}},
		{`"it's" '"so"'`, []string{"it's", `"so"`}},
		{`"a 'b c' d"`, []string{"a 'b c' d"}},
		{`'a "b c" d'`, []string{`a "b c" d`}},
		{`"''" '""'`, []string{"''", `""`}},
		{`"'" '"' "'"`, []string{"'", `"`, "'"}},
	})
}

func TestP4_1_QuotesThatBeginWithinAnArgument(t *testing.T) {
	wantSplits(t, []splitting{
		{`a"b"`, []string{"ab"}},
		{`a'b'`, []string{"ab"}},
		{`a"b c"`, []string{"ab c"}},
		{`a'b c' d`, []string{"ab c", "d"}},
		{`key="a b" other='c d'`, []string{"key=a b", "other=c d"}},
		{`a"'"`, []string{`a'`}},
		{`a'"'`, []string{`a"`}},
		{`a"\x41"`, []string{"aA"}},
		{`a'\''`, []string{`a'`}},
	})
	// Nothing but a blank may be behind what closes them, no other quotes either.
	wantNotRight(t, `"a""b"`, `'a''b'`, `"a"'b'`, `'a'"b"`, `a"b"c`, `a'b'c`, `a"b"c"d"`, `x"" ""y`, `a"b""c" d`, `"a"'' b`)
}

func TestP4_1_QuotesThatAreNotClosed(t *testing.T) {
	wantNotRight(t,
		`"`, `'`, ` "`, `' `, `" `, `"a`, `'a`, `a"`, `a'`, `a"b c`, `a'b c`, `GET "a`, `GET 'a `, `GET a"`,
		`"'`, `'"`, `"a'`, `'a"`, `"a' b`, `"it's`, `it's`, `don't do`, `"a" "`, `'a' '`, `"a" b '`, `"" '`, `a "" "`,
		`"\"`, `'\'`, `"a\"`, `'a\'`, `'\' `, `"\" `, `"\\\"`, `'\\'`, `'a\\' b`)
}

func TestP4_1_SomethingBehindQuotes(t *testing.T) {
	wantNotRight(t, `"a"b`, `'a'b`, `"a"b c`, `c "a"b`, `""a`, `''a`, `"a"\`, `'a'\`, `"a"\ `, `"a"#`, `"a"\n`, `x 'a'. y`, `"a",`)
	for _, q := range []splitting{{`"a"`, []string{"a"}}, {`'a'`, []string{"a"}}, {`""`, []string{""}}, {`''`, []string{""}}, {`b"a"`, []string{"ba"}}, {`b'a'`, []string{"ba"}}} {
		for _, c := range eachByte() {
			if c == " " || c == "\t" {
				wantSplit(t, q.s+c, q.want, true)
				wantSplit(t, q.s+c+"d", append(q.want, "d"), true)
				continue
			}
			wantNotRight(t, q.s+c, q.s+c+"d", q.s+c+" d", q.s+c+q.s)
		}
	}
}

func TestP4_1_TurnsBetweenDoubleQuotes(t *testing.T) {
	wantSplits(t, []splitting{
		{`"\n"`, []string{"\n"}},
		{`"\r"`, []string{"\r"}},
		{`"\t"`, []string{"\t"}},
		{`"\b"`, []string{"\b"}},
		{`"\a"`, []string{"\a"}},
		{`"\n\r\t\b\a"`, []string{"\x0a\x0d\x09\x08\x07"}},
		{`"\""`, []string{`"`}},
		{`"\\"`, []string{`\`}},
		{`"\'"`, []string{`'`}},
		{`"a\"b c\"d"`, []string{`a"b c"d`}},
		{`"\\" "\""`, []string{`\`, `"`}},
		{`"\\\""`, []string{`\"`}},
		{`"\\\\"`, []string{`\\`}},
		{`"\\n"`, []string{`\n`}},
		{`"\\x41"`, []string{`\x41`}},
		{`"\ a"`, []string{" a"}},
		{"\"\\\ta\"", []string{"\ta"}},
		{"\"\\\n\"", []string{"\n"}},
		{"\"\\\x00\"", []string{"\x00"}},
		{"\"\\\xff\"", []string{"\xff"}},
		{`"\N\R\T\B\A"`, []string{"NRTBA"}},
		{`"\v\f\e\0\1\u"`, []string{"vfe01u"}},
		{`"a\nb" c`, []string{"a\nb", "c"}},
	})
}

func TestP4_1_HexTurns(t *testing.T) {
	wantSplits(t, []splitting{
		{`"\x41"`, []string{"A"}},
		{`"\x00"`, []string{"\x00"}},
		{`"\xff\xFF\xfF\xFf"`, []string{"\xff\xff\xff\xff"}},
		{`"\x0a\x0A"`, []string{"\n\n"}},
		{`"\xaB\xCd\xeF"`, []string{"\xab\xcd\xef"}},
		{`"\x22"`, []string{`"`}},
		{`"\x5c"`, []string{`\`}},
		{`"\x5cn"`, []string{`\n`}},
		{`"\x20"`, []string{" "}},
		{`"\x414"`, []string{"A4"}},
		{`"\x41\x42"`, []string{"AB"}},
		// Of fewer than two hex digits the `x` is itself.
		{`"\x"`, []string{"x"}},
		{`"\x4"`, []string{"x4"}},
		{`"\xf"`, []string{"xf"}},
		{`"\x4g"`, []string{"x4g"}},
		{`"\xg4"`, []string{"xg4"}},
		{`"\xgg"`, []string{"xgg"}},
		{`"\x 4"`, []string{"x 4"}},
		{`"\x4 "`, []string{"x4 "}},
		{`"\x+4"`, []string{"x+4"}},
		{`"\x-4"`, []string{"x-4"}},
		{`"\x_4"`, []string{"x_4"}},
		{`"\x4_"`, []string{"x4_"}},
		{`"\x0x"`, []string{"x0x"}},
		{`"\x\x41"`, []string{"xA"}},
		{`"\x4\x41"`, []string{"x4A"}},
		{`"\x4\n"`, []string{"x4\n"}},
		{`"\x\""`, []string{`x"`}},
		{`"\x4\""`, []string{`x4"`}},
		{`"\X41"`, []string{"X41"}},
		{"\"\\x\uff14\uff11\"", []string{"x\uff14\uff11"}},
	})
	wantNotRight(t, `"\x" 41"`, `"\x4" 1"`, `"\x"41"`, `"\x4"1"`, `"\x`, `"\x4`, `"\x41`)
	for c := range 256 {
		for _, form := range []string{`"\x%02x"`, `"\x%02X"`} {
			wantSplit(t, fmt.Sprintf(form, c), []string{string([]byte{byte(c)})}, true)
		}
	}
}

// Each byte in the place of each hex digit.
func TestP4_1_HexDigitsAlone(t *testing.T) {
	for _, c := range eachByte() {
		for _, s := range []string{`"\x` + c + `4"`, `"\x4` + c + `"`, `"\x` + c + c + `"`, `"\x` + c + `"`} {
			want, ok := meant(s)
			wantSplit(t, s, want, ok)
		}
		isDigit := strings.Contains("0123456789abcdefABCDEF", c)
		if l, _ := line.Split(`"\x4` + c + `"`); isDigit != (len(l) == 1 && len(l[0]) == 1) {
			t.Errorf("%q as a hex digit: %q", c, l)
		}
	}
}

func TestP4_1_TurnsBetweenSingleQuotes(t *testing.T) {
	wantSplits(t, []splitting{
		{`'\''`, []string{`'`}},
		{`'a\'b'`, []string{`a'b`}},
		{`'\'\''`, []string{`''`}},
		{`'\n\r\t\b\a'`, []string{`\n\r\t\b\a`}},
		{`'\x41'`, []string{`\x41`}},
		{`'\"'`, []string{`\"`}},
		{`'\ '`, []string{`\ `}},
		{`'\a' b`, []string{`\a`, "b"}},
		{`'\\a'`, []string{`\\a`}},
		// The first `\` is itself, so that the one behind it turns what is behind that.
		{`'\\''`, []string{`\'`}},
		{`'\\\''`, []string{`\\'`}},
		{`'\\' b'`, []string{`\' b`}},
		{`'it\'s' a`, []string{"it's", "a"}},
	})
	wantNotRight(t, `'\'`, `'\\'`, `'\\\'`, `'a\'`, `'\'' '`, `'\''a`, `'\'a''`)
}

func TestP4_1_TurnsOutsideQuotes(t *testing.T) {
	wantSplits(t, []splitting{
		{`\`, []string{`\`}},
		{`\\`, []string{`\\`}},
		{`a\`, []string{`a\`}},
		{`a\ b`, []string{`a\`, "b"}},
		{`\n`, []string{`\n`}},
		{`\x41`, []string{`\x41`}},
		{`a\nb \t`, []string{`a\nb`, `\t`}},
		{`\ \`, []string{`\`, `\`}},
		// It does not keep quotes from being opened.
		{`\"a b"`, []string{`\a b`}},
		{`\'a b'`, []string{`\a b`}},
		{`\""`, []string{`\`}},
		{`a\'\''`, []string{`a\'`}},
	})
	wantNotRight(t, `\"`, `\'`, `a\"b`, `a\'b c`, `\"a\"`, `it\'s`)
}

func TestP4_1_TurnsAtTheEnd(t *testing.T) {
	wantNotRight(t, `"\`, `"a\`, `"a\\`, `"\\\`, `"\x\`, `"\x4\`, `'\`, `'a\`, `'a\\`, `a"\`, `a'\`, `a b "\`)
	wantSplits(t, []splitting{
		{`a b \`, []string{"a", "b", `\`}},
		{`"a" \`, []string{"a", `\`}},
		{`'a' \\`, []string{"a", `\\`}},
	})
}

// wantOne tells whether a line is of one argument; none: of one whose quotes are not right.
func wantOne(t *testing.T, s, want string, ok bool) {
	t.Helper()
	if ok {
		wantSplit(t, s, []string{want}, true)
	} else {
		wantNotRight(t, s)
	}
}

func TestP4_1_EachByteOutsideQuotes(t *testing.T) {
	for _, c := range eachByte() {
		switch c {
		case " ", "\t":
			wantSplit(t, c, nil, true)
			wantSplit(t, "a"+c+"b", []string{"a", "b"}, true)
		case `"`, `'`:
			wantNotRight(t, c, "a"+c+"b", "a "+c+" b")
		default:
			wantOne(t, c, c, true)
			wantOne(t, "a"+c+"b", "a"+c+"b", true)
			wantSplit(t, "a "+c+" b", []string{"a", c, "b"}, true)
		}
	}
}

func TestP4_1_EachByteBetweenQuotes(t *testing.T) {
	for _, c := range eachByte() {
		closes := c == `"`
		wantOne(t, `"`+c+`"`, c, !closes && c != `\`)
		wantOne(t, `"a`+c+` b"`, "a"+strings.TrimPrefix(c, `\`)+" b", !closes)
		wantOne(t, `'`+c+`'`, c, c != `'` && c != `\`)
		wantOne(t, `'a`+c+` b'`, "a"+c+" b", c != `'`)
	}
}

func TestP4_1_EachByteBehindATurn(t *testing.T) {
	for _, c := range eachByte() {
		want, ok := named[c]
		if !ok {
			want = c
		}
		wantOne(t, `"\`+c+`"`, want, true)
		wantOne(t, `"a\`+c+`g"`, "a"+want+"g", true)
		want = `\` + c
		if c == `'` {
			want = c
		}
		wantOne(t, `'\`+c+`'`, want, c != `\`)
		wantOne(t, `'a\`+c+`b'`, "a"+want+"b", true)
		wantOne(t, `\`+c, `\`+strings.TrimLeft(c, " \t"), c != `"` && c != `'`)
	}
}

func TestP4_1_BytesAbove127(t *testing.T) {
	high := allBytes()[128:]
	wantSplits(t, []splitting{
		{high, []string{high}},
		{`"` + high + `"`, []string{high}},
		{`'` + high + `'`, []string{high}},
		{"\u00e9 \"\u00e9 \u2028\" '\U0001f600'", []string{"\u00e9", "\u00e9 \u2028", "\U0001f600"}},
		{"\xff \xfe", []string{"\xff", "\xfe"}},
		{"\xc3 \xa9", []string{"\xc3", "\xa9"}},
		{"\xa0\x85", []string{"\xa0\x85"}},
	})
	wantNotRight(t, "\"a\"\xff", "'a'\xa0", "\"a\"\u00e9", "\"\xff", "\xff'")
}

func TestP4_1_LongLines(t *testing.T) {
	const size = 1 << 20
	a := strings.Repeat("a", size)
	many := slices.Repeat([]string{"a"}, size/2)
	wantSplits(t, []splitting{
		{a, []string{a}},
		{`"` + a + `"`, []string{a}},
		{`'` + a + `' b`, []string{a, "b"}},
		{strings.Repeat(" ", size), nil},
		{strings.Repeat("\t", size) + "a", []string{"a"}},
		{"a" + strings.Repeat(" ", size), []string{"a"}},
		{"a" + strings.Repeat(" \t", size/2) + "b", []string{"a", "b"}},
		{strings.Repeat("a ", size/2), many},
		{strings.Repeat(`"a" `, size/2), many},
		{strings.Repeat(`"" `, size/2), make([]string, size/2)},
		{`"` + strings.Repeat(`\x00`, size/4) + `"`, []string{strings.Repeat("\x00", size/4)}},
		{`"` + strings.Repeat(`\"`, size/2) + `"`, []string{strings.Repeat(`"`, size/2)}},
		{`'` + strings.Repeat(`\'`, size/2) + `'`, []string{strings.Repeat(`'`, size/2)}},
		{strings.Repeat(`\`, size), []string{strings.Repeat(`\`, size)}},
	})
	wantNotRight(t, `"`+a, `'`+a, a+`"`, strings.Repeat(`"a" `, size/2)+`"`, strings.Repeat(`""`, size/2), `"`+strings.Repeat(`\"`, size/2))
}

func TestP4_1_AllShortLines(t *testing.T) {
	right := 0
	for _, s := range texts(`"'\ xa`, 7) {
		want, ok := meant(s)
		wantSplit(t, s, want, ok)
		if ok {
			right++
		}
		endOnFault(t)
	}
	if right < 10000 {
		t.Errorf("only %d lines had right quotes", right)
	}
}

// What is long enough for a hex turn is no short line any more.
func TestP4_1_AllThatIsShortWithinQuotes(t *testing.T) {
	for _, inside := range texts(`"'\x4ng`, 6) {
		for _, s := range []string{`"` + inside + `"`, `'` + inside + `'`} {
			want, ok := meant(s)
			wantSplit(t, s, want, ok)
		}
		endOnFault(t)
	}
}

func TestP4_1_RolledLines(t *testing.T) {
	roll := rolled(1)
	for _, alphabet := range []string{"ab \t", "ab  \"'", `"\x0aF1nrtb '`, "\" \t'\\\n\r\x00\x7f\x80\xffxa4"} {
		right := 0
		for range 20000 {
			s := rolledText(roll, alphabet, 24)
			want, ok := meant(s)
			wantSplit(t, s, want, ok)
			if ok {
				right++
			}
			endOnFault(t)
		}
		if right < 500 {
			t.Errorf("of %q only %d lines had right quotes", alphabet, right)
		}
	}
}

// An answer is new each time: who changes one changes no other one.
func TestP4_1_AnswersAreNew(t *testing.T) {
	s := `a "b c" d`
	first, _ := line.Split(s)
	for i := range first {
		first[i] = "x"
	}
	_ = append(first, "y")
	wantSplit(t, s, []string{"a", "b c", "d"}, true)
}

func TestP4_2_Join(t *testing.T) {
	wantJoin(t, ``)
	wantJoin(t, `""`, "")
	wantJoin(t, `"" ""`, "", "")
	wantJoin(t, `a`, "a")
	wantJoin(t, `SET key value`, "SET", "key", "value")
	wantJoin(t, `SET "a b" ""`, "SET", "a b", "")
	wantJoin(t, `"" a`, "", "a")
	wantJoin(t, `a "" b`, "a", "", "b")
	wantJoin(t, `" "`, " ")
	wantJoin(t, `"\x09"`, "\t")
	wantJoin(t, `"\x0a" "\x0d" "\x0d\x0a" "\x00"`, "\n", "\r", "\r\n", "\x00")
	wantJoin(t, `"\x07\x08\x1b\x1f"`, "\a\b\x1b\x1f")
	wantJoin(t, `"\x7f" "\x80" "\xff"`, "\x7f", "\x80", "\xff")
	wantJoin(t, `"\xc3\xa9"`, "\u00e9")
	wantJoin(t, `"\""`, `"`)
	wantJoin(t, `"\\"`, `\`)
	wantJoin(t, `"'"`, `'`)
	wantJoin(t, `"it's" "say \"so\"" "a\\b"`, "it's", `say "so"`, `a\b`)
	wantJoin(t, `"\\n" "\\x41"`, `\n`, `\x41`)
	wantJoin(t, `"a b"`, "a b")
	wantJoin(t, `"a " " a"`, "a ", " a")
	wantJoin(t, `"a\x0ab c"`, "a\nb c")
	wantJoin(t, `! # $ % & ( ) * + , - . / 0 ~ [ ] ^ _ { | } :;<=>?@`,
		"!", "#", "$", "%", "&", "(", ")", "*", "+", ",", "-", ".", "/", "0", "~", "[", "]", "^", "_", "{", "|", "}", ":;<=>?@")
	wantJoin(t, `"#a b" #a`, "#a b", "#a")
}

func TestP4_2_JoinOfEachByte(t *testing.T) {
	for c, s := range eachByte() {
		var want string
		switch {
		case c == '"':
			want = `"\""`
		case c == '\\':
			want = `"\\"`
		case c == ' ' || c == '\'':
			want = `"` + s + `"`
		case c > 32 && c < 127:
			want = s
		default:
			want = fmt.Sprintf(`"\x%02x"`, c)
		}
		wantJoin(t, want, s)
		wantJoin(t, "a "+want+" "+want, "a", s, s)
		// One such byte, wherever it is, makes all of the argument be quoted.
		inner := strings.TrimSuffix(strings.TrimPrefix(want, `"`), `"`)
		if c == '"' {
			inner = `\"`
		}
		for _, form := range []string{"%sab", "a%sb", "ab%s"} {
			quoted := fmt.Sprintf(form, inner)
			if want != s {
				quoted = `"` + quoted + `"`
			}
			wantJoin(t, quoted, fmt.Sprintf(form, s))
		}
	}
}

func TestP4_2_JoinOfManyAndLongTexts(t *testing.T) {
	const size = 1 << 20
	many := slices.Repeat([]string{"a"}, size)
	wantJoin(t, strings.Repeat("a ", size-1)+"a", many...)
	wantJoin(t, strings.Repeat(`"" `, size-1)+`""`, make([]string, size)...)
	a := strings.Repeat("a", size)
	wantJoin(t, a, a)
	wantJoin(t, `"`+a+` "`, a+" ")
	wantJoin(t, `"`+strings.Repeat(`\x00`, size)+`"`, strings.Repeat("\x00", size))
	wantJoin(t, `"`+strings.Repeat(`\"`, size)+`"`, strings.Repeat(`"`, size))
}

func TestP4_2_JoinOfAllShortTexts(t *testing.T) {
	for _, s := range texts("\"'\\ \t!~\x7fx", 4) {
		wantJoin(t, meantJoined(s), s)
		endOnFault(t)
	}
}

func TestP4_2_JoinOfRolledTexts(t *testing.T) {
	roll := rolled(2)
	for _, alphabet := range []string{"abc", "a~! ", "\"'\\x", allBytes()} {
		for range 5000 {
			l := rolledTexts(roll, alphabet, 6)
			var want []string
			for _, s := range l {
				want = append(want, meantJoined(s))
			}
			wantJoin(t, strings.Join(want, " "), l...)
			endOnFault(t)
		}
	}
}

func TestP4_2_WhatIsHandedInStays(t *testing.T) {
	room := []string{"a b", "", "\n", "spare", "x"}
	l := room[:3]
	wantJoin(t, `"a b" "" "\x0a"`, l...)
	if want := []string{"a b", "", "\n", "spare", "x"}; !slices.Equal(room, want) {
		t.Errorf("what was handed in is now %q", room)
	}
}

// wantBack tells whether texts that are joined are split again, in a line whose bytes are all shown.
func wantBack(t *testing.T, l ...string) {
	t.Helper()
	s := line.Join(l...)
	wantSplit(t, s, l, true)
	for i := range len(s) {
		if s[i] < 32 || s[i] > 126 {
			t.Errorf("Join(%s) has the byte %d", short(l), s[i])
		}
	}
}

func TestP4_3_WhatIsJoinedIsSplit(t *testing.T) {
	wantBack(t)
	wantBack(t, "")
	wantBack(t, "", "")
	wantBack(t, "a")
	wantBack(t, "SET", "key", "a value")
	wantBack(t, "", "a", "", "b c", "")
	wantBack(t, "\r\n", "\n", "\r", "a\nb", "\x00")
	wantBack(t, `"`, `'`, `\`, `\"`, `\'`, `'"`, `"'`, `\\`)
	wantBack(t, `\n`, `\x41`, `\x`, `"a b"`, `'a b'`, `""`, `''`)
	wantBack(t, " ", "\t", " \t ", "  a  ")
	wantBack(t, eachByte()...)
	wantBack(t, allBytes())
	wantBack(t, allBytes()+allBytes(), "", allBytes())
	wantBack(t, slices.Repeat([]string{"", "a", " ", "\n"}, 1<<16)...)
	wantBack(t, strings.Repeat("a", 1<<20), strings.Repeat("\n\"\\", 1<<18))
}

func TestP4_3_EachByteInEachPlace(t *testing.T) {
	for _, c := range eachByte() {
		wantBack(t, c)
		for _, d := range eachByte() {
			wantBack(t, c+d, d)
		}
		// Behind what tells a byte by hex digits, such a digit is no part of that.
		wantBack(t, "\n"+c+c, c+"\x00"+c)
		endOnFault(t)
	}
}

func TestP4_3_AllShortTexts(t *testing.T) {
	for _, s := range texts("\"'\\ \nxa0", 5) {
		wantBack(t, s)
		wantBack(t, s, "a", s)
		endOnFault(t)
	}
}

func TestP4_3_RolledTexts(t *testing.T) {
	roll := rolled(3)
	for _, alphabet := range []string{"ab ", "\"'\\x0 ", "\n\r\t\x000aF", allBytes()} {
		for range 5000 {
			wantBack(t, rolledTexts(roll, alphabet, 8)...)
			endOnFault(t)
		}
	}
}

// A line that is joined from what a line was split into says the same.
func TestP4_3_WhatIsSplitIsJoinedAndSplit(t *testing.T) {
	for _, s := range texts(`"'\ xa`, 6) {
		if l, ok := line.Split(s); ok {
			wantBack(t, l...)
		}
		endOnFault(t)
	}
}

// raws are arguments as they may stand in a line.
var raws = []string{`a`, `bc`, `\`, `#`, `""`, `''`, `"a"`, `'a b'`, `"a \" b"`, `'\' '`, `x"y z"`, `x'"'`, `"\x41\n"`, "\n", "\x00\r", "\xff", `"' '"`}

// broken are such as have quotes that are not right.
var broken = []string{`"`, `'`, `"a`, `a'`, `"a"b`, `'a'b`, `"a""b"`, `'\'`, `"\"`}

// laid are arguments with so many blanks of a kind ahead, behind and, at least one, between.
func laid(l []string, ahead, between, behind string) string {
	return ahead + strings.Join(l, between) + behind
}

func TestP4_4_MoreBlanksTurnNothing(t *testing.T) {
	blanks := []string{"", " ", "\t", "  ", "\t\t", " \t", "\t ", "   \t\t  ", strings.Repeat(" ", 1000), strings.Repeat("\t ", 1000)}
	lists := [][]string{nil, raws, slices.Concat(raws, raws), {`SET`, `a"b c"`, `''`}}
	for _, raw := range raws {
		lists = append(lists, []string{raw}, []string{"a", raw}, []string{raw, "a"}, []string{raw, raw, raw})
	}
	for _, raw := range broken {
		lists = append(lists, []string{raw}, []string{"a", raw}, []string{`"a"`, raw})
	}
	for _, l := range lists {
		want, ok := line.Split(strings.Join(l, " "))
		if ok && len(want) != len(l) {
			t.Errorf("%q: %q", l, want)
		}
		for _, more := range blanks {
			for _, other := range blanks {
				wantSplit(t, laid(l, more, " ", other), want, ok)
				if more != "" {
					wantSplit(t, laid(l, "", more, other), want, ok)
					wantSplit(t, laid(l, other, more, ""), want, ok)
				}
			}
		}
		endOnFault(t)
	}
}

func TestP4_4_MoreBlanksInWhatIsJoined(t *testing.T) {
	roll := rolled(4)
	for range 5000 {
		l := rolledTexts(roll, "ab \t\"'\\\n\xff", 7)
		s := rolledText(roll, " \t", 4)
		for _, arg := range l {
			s += line.Join(arg) + " " + rolledText(roll, " \t", 4)
		}
		wantSplit(t, s, l, true)
		endOnFault(t)
	}
}

// Within quotes blanks count, each of them.
func TestP4_4_BlanksWithinQuotesStay(t *testing.T) {
	for _, blanks := range texts(" \t", 5) {
		wantSplit(t, `"a`+blanks+`b" 'c`+blanks+`'`, []string{"a" + blanks + "b", "c" + blanks}, true)
		wantSplit(t, ` "`+blanks+`"  a"`+blanks+`" `, []string{blanks, "a" + blanks}, true)
	}
}
