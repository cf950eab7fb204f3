package glob_test

import (
	"fmt"
	"regexp"
	"slices"
	"strings"
	"testing"

	"mews/glob"
)

// special are the bytes that mean something in a pattern, and two that mean nothing.
const special = `*?[]^-\ab`

// items are the document's words for what is in a class, in their order.
const items = `\\.|[^\\\]]-[^\]]|[^\]]`

var (
	itemsOf = regexp.MustCompile(`(?s)` + items)
	partsOf = regexp.MustCompile(`(?s)\*|\?|\[\^?(?:` + items + `)*(?:\]|\z)|\\.|.`)
)

// wide has a rune for each byte, as package regexp goes rune by rune.
func wide(s string) string {
	l := make([]rune, len(s))
	for i := range len(s) {
		l[i] = rune(s[i])
	}
	return string(l)
}

// parts are a pattern's parts, made wide.
func parts(pattern string) []string {
	return partsOf.FindAllString(wide(pattern), -1)
}

// itself is the rune that is meant, with a `\` ahead or not.
func itself(part string) string {
	l := []rune(part)
	return fmt.Sprintf(`\x{%x}`, l[len(l)-1])
}

// classMeant is a class as package regexp has it.
func classMeant(part string) string {
	rest, turned := strings.CutPrefix(part[1:], "^")
	var has strings.Builder
	for _, item := range itemsOf.FindAllString(rest, -1) {
		if l := []rune(item); len(l) == 3 {
			fmt.Fprintf(&has, `\x{%x}-\x{%x}`, min(l[0], l[2]), max(l[0], l[2]))
		} else {
			has.WriteString(itself(item))
		}
	}
	none := has.Len() == 0
	switch {
	case none && turned:
		return "."
	case none:
		return `[^\x00-\x{10ffff}]`
	case turned:
		return "[^" + has.String() + "]"
	}
	return "[" + has.String() + "]"
}

// meant is a pattern as package regexp has it.
func meant(pattern string) *regexp.Regexp {
	var b strings.Builder
	for _, part := range parts(pattern) {
		switch {
		case part == "*":
			b.WriteString(".*")
		case part == "?":
			b.WriteString(".")
		case strings.HasPrefix(part, "["):
			b.WriteString(classMeant(part))
		default:
			b.WriteString(itself(part))
		}
	}
	return regexp.MustCompile(`(?s)\A` + b.String() + `\z`)
}

// texts are all of up to so many bytes, made of an alphabet.
func texts(alphabet string, most int) []string {
	all := []string{""}
	last := all
	for range most {
		var next []string
		for _, s := range last {
			for i := range len(alphabet) {
				next = append(next, s+alphabet[i:i+1])
			}
		}
		all = append(all, next...)
		last = next
	}
	return all
}

// eachByte are the 256 texts of one byte.
func eachByte() []string {
	var l []string
	for c := range 256 {
		l = append(l, string([]byte{byte(c)}))
	}
	return l
}

// rolled gives numbers without a pattern to them, the same ones each time.
func rolled(seed uint64) func(below int) int {
	return func(below int) int {
		seed = seed*6364136223846793005 + 1442695040888963407
		return int(seed>>33) % below
	}
}

// rolledText is a text of fewer than so many bytes of an alphabet.
func rolledText(roll func(int) int, alphabet string, most int) string {
	b := make([]byte, roll(most))
	for i := range b {
		b[i] = alphabet[roll(len(alphabet))]
	}
	return string(b)
}

func wantMatch(t *testing.T, pattern, s string, want bool) {
	t.Helper()
	if got := glob.Match(pattern, s); got != want {
		t.Errorf("Match(%.80q, %.80q) = %v; want %v", pattern, s, got, want)
	}
}

// endOnFault keeps those who go through very many patterns from telling all that is wrong.
func endOnFault(t *testing.T) {
	t.Helper()
	if t.Failed() {
		t.FailNow()
	}
}

// matching is a pattern, with texts that match, beside such as just do not.
type matching struct {
	pattern string
	yes, no []string
}

func wantMatching(t *testing.T, l []matching) {
	t.Helper()
	for _, x := range l {
		for _, s := range x.yes {
			wantMatch(t, x.pattern, s, true)
		}
		for _, s := range x.no {
			wantMatch(t, x.pattern, s, false)
		}
	}
}

func TestP2_1_MatchOfBytesAndRuns(t *testing.T) {
	wantMatching(t, []matching{
		{``, []string{""}, []string{"a", "*", "\x00"}},
		{`a`, []string{"a"}, []string{"", "b", "A", "aa", "a\n", "\na"}},
		{`hello`, []string{"hello"}, []string{"hell", "hellO", "helloo", "ello", "hallo", "hello "}},
		{`?`, []string{"a", "?", "*", "\n", "\x00", "\xff"}, []string{"", "ab", "\u00e9"}},
		{`??`, []string{"ab", "\u00e9"}, []string{"", "a", "abc"}},
		{`h?llo`, []string{"hello", "hallo", "h?llo"}, []string{"hllo", "heello", "jello"}},
		{`*`, []string{"", "a", "abc", "\n", "a\nb", "\xff\x00"}, nil},
		{`a*`, []string{"a", "ab", "aa", "a*"}, []string{"", "ba", "b"}},
		{`*a`, []string{"a", "ba", "aba", "\na"}, []string{"", "ab", "b"}},
		{`a*b`, []string{"ab", "aab", "abb", "a b", "abab", "axbxb"}, []string{"", "a", "b", "ba", "aba", "xab", "abx"}},
		{`a*a`, []string{"aa", "aba", "aaa"}, []string{"", "a", "ab", "aab"}},
		{`*a*`, []string{"a", "ba", "ab", "bab"}, []string{"", "b", "bb"}},
		{`*?`, []string{"a", "ab"}, []string{""}},
		{`?*`, []string{"a", "ab"}, []string{""}},
		{`?*?`, []string{"ab", "abc"}, []string{"", "a"}},
		{`a*?b`, []string{"axb", "abb", "axyb"}, []string{"ab", "a", "axbx"}},
		{`*ab*ab`, []string{"abab", "ababab", "xabyab", "aabab"}, []string{"ab", "aba", "abba", "ababa"}},
		{`*aab`, []string{"aab", "aaab", "aabaab", "aaaaab"}, []string{"ab", "aaba", "abab"}},
		{`a*b*c`, []string{"abc", "aXbYc", "abbcc", "acbc"}, []string{"ac", "acb", "abcd", "bc"}},
		{`h[a-c]llo*`, []string{"hbllo!", "hallo", "hcllo"}, []string{"hdllo", "hbll", "h-llo"}},
	})
}

func TestP2_1_RunsOneBehindTheOther(t *testing.T) {
	wantMatching(t, []matching{
		{`**`, []string{"", "a", "ab"}, nil},
		{`*****`, []string{"", "a", "ab"}, nil},
		{`a**`, []string{"a", "ab"}, []string{"", "ba"}},
		{`**a`, []string{"a", "ba"}, []string{"", "ab"}},
		{`a**b`, []string{"ab", "axb"}, []string{"a", "b", "abx"}},
		{`*?*`, []string{"a", "ab", "abc"}, []string{""}},
		{`**?**?**`, []string{"ab", "abc"}, []string{"", "a"}},
		{`**a**b**`, []string{"ab", "xaxbx"}, []string{"", "a", "b", "ba"}},
	})
}

func TestP2_1_TurnedBytes(t *testing.T) {
	wantMatching(t, []matching{
		{`\*`, []string{"*"}, []string{"", "a", `\*`, `\`, "**"}},
		{`\?`, []string{"?"}, []string{"", "a", `\?`}},
		{`\[a]`, []string{"[a]"}, []string{"a", `\[a]`, "[", ""}},
		{`\\`, []string{`\`}, []string{"", `\\`}},
		{`\\\`, []string{`\\`}, []string{"", `\`, `\\\`}},
		{`\a`, []string{"a"}, []string{"", `\a`, `\`}},
		{`\n`, []string{"n"}, []string{"\n", `\n`}},
		{"\\\n", []string{"\n"}, []string{"n", "\\\n"}},
		{"\\\xff", []string{"\xff"}, []string{"\\\xff", "\xfe"}},
		// A last one is itself.
		{`\`, []string{`\`}, []string{"", `\\`, "a"}},
		{`a\`, []string{`a\`}, []string{"a", `a\\`, `\`}},
		{`*\`, []string{`\`, `a\`, `\\`}, []string{"", "a", `\a`}},
		{`\*\`, []string{`*\`}, []string{`\*\`, `\`, "*"}},
		// These mean nothing beside a class.
		{`]`, []string{"]"}, []string{"", "]]", "["}},
		{`a]`, []string{"a]"}, []string{"a", "]"}},
		{`^a-b`, []string{"^a-b"}, []string{"a", "b", "-", "c"}},
	})
}

func TestP2_1_Classes(t *testing.T) {
	wantMatching(t, []matching{
		{`[abc]`, []string{"a", "b", "c"}, []string{"", "d", "ab", "[abc]", "]", "`"}},
		{`[a]b`, []string{"ab"}, []string{"a", "b", "bb", "aab"}},
		{`x[ab]y`, []string{"xay", "xby"}, []string{"xy", "xcy", "xaby"}},
		{`[^abc]`, []string{"d", "^", "]", "\x00", "\xff"}, []string{"", "a", "b", "c", "de"}},
		{`[^^]`, []string{"a", "]"}, []string{"^", ""}},
		{`[a^]`, []string{"a", "^"}, []string{"b", "]", ""}},
		{`[\^a]`, []string{"a", "^"}, []string{"b", `\`, ""}},
		{`[*?]`, []string{"*", "?"}, []string{"a", ""}},
		{`[[]`, []string{"["}, []string{"]", "", "[]"}},
		{`[a[b]]`, []string{"a]", "[]", "b]"}, []string{"a", "]", "[a[b]]"}},
		{`[aa]`, []string{"a"}, []string{"aa"}},
		{`*[ab]`, []string{"a", "xb", "ab"}, []string{"", "x", "ax"}},
		{`[ab]*[cd]`, []string{"ac", "bxd", "acd"}, []string{"a", "ca", "cd"}},
		{`a[^b-d]*`, []string{"aeb", "aa", "a-"}, []string{"acb", "a", "ab", "ad"}},
	})
}

func TestP2_1_EmptyAndOpenClasses(t *testing.T) {
	wantMatching(t, []matching{
		{`[]`, nil, []string{"", "]", "[", "[]", "a"}},
		{`[]a]`, nil, []string{"", "]", "a", "a]", "]a]", "xa]"}},
		{`[]-a]`, nil, []string{"^", "]", "-a]", "x-a]", "a"}},
		{`*[]*`, nil, []string{"", "]", "[]"}},
		{`[^]`, []string{"a", "]", "^", "\x00", "\xff"}, []string{"", "ab"}},
		{`[^]]`, []string{"a]", "]]"}, []string{"", "a", "]", "ab"}},
		{`[^]a]`, []string{"xa]", "aa]"}, []string{"x", "]", "a]"}},
		{`[`, nil, []string{"", "[", "a"}},
		{`a[`, nil, []string{"", "a", "a[", "ab"}},
		{`[^`, []string{"a", "^", "]"}, []string{"", "ab"}},
		{`[a`, []string{"a"}, []string{"", "b", "[a", "aa", "["}},
		{`[ab`, []string{"a", "b"}, []string{"ab", "", "c"}},
		{`[^a`, []string{"b", "^"}, []string{"a", "", "bb"}},
		{`[a*`, []string{"a", "*"}, []string{"", "ab", "b"}},
		{`x[a-`, []string{"xa", "x-"}, []string{"x", "xb", "x,"}},
		{`[a-c`, []string{"a", "b", "c"}, []string{"-", "d", ""}},
	})
}

func TestP2_1_Ranges(t *testing.T) {
	wantMatching(t, []matching{
		{`[a-c]`, []string{"a", "b", "c"}, []string{"`", "d", "-", "", "ab"}},
		{`[c-a]`, []string{"a", "b", "c"}, []string{"`", "d", "-", ""}},
		{`[b-b]`, []string{"b"}, []string{"a", "c", "-"}},
		{`[^a-c]`, []string{"`", "d", "-", "^"}, []string{"a", "b", "c", ""}},
		{`[^c-a]`, []string{"`", "d", "-", "^"}, []string{"a", "b", "c", ""}},
		{`[a-cx-z]`, []string{"a", "c", "x", "z"}, []string{"d", "w", "-"}},
		{`[a-c-e]`, []string{"a", "b", "c", "-", "e"}, []string{"d"}},
		{`[0-9a]`, []string{"0", "5", "9", "a"}, []string{"/", ":", "-"}},
		{`[\x00-\xff]`, []string{"x", "0", "1", "A", `\`, "f"}, []string{"\x00", "\xff", "-", "]", "a"}},
		{"[\x00-\xff]", []string{"\x00", "a", "]", "\x80", "\xff"}, []string{""}},
		// With `-` in it.
		{`[-]`, []string{"-"}, []string{"", "a", "]"}},
		{`[-a]`, []string{"-", "a"}, []string{"]", "b", "."}},
		{`[a-]`, []string{"a", "-"}, []string{"]", "b", "^"}},
		{`[a-]b]`, []string{"ab]", "-b]"}, []string{"a", "b", "_", "]"}},
		{`[^a-]`, []string{"b", "]", "^"}, []string{"a", "-"}},
		{`[^-a]`, []string{"b", "^", "_"}, []string{"a", "-"}},
		{`[--a]`, []string{"-", "A", "]", "a"}, []string{",", "b"}},
		{`[a--]`, []string{"-", "A", "]", "a"}, []string{",", "b"}},
		{`[---]`, []string{"-"}, []string{",", "."}},
		{`[--]`, []string{"-"}, []string{"]", ",", "--"}},
		{`[a-[]`, []string{"[", "^", "a"}, []string{"Z", "b"}},
		{`[[-a]`, []string{"[", "]", "a"}, []string{"Z", "b", "-"}},
		{`[a-^]`, []string{"^", "_", "a"}, []string{"]", "b"}},
		{`[*-?]`, []string{"*", "5", "?"}, []string{")", "@"}},
	})
}

func TestP2_1_ClassesWithTurnedBytes(t *testing.T) {
	wantMatching(t, []matching{
		{`[\]]`, []string{"]"}, []string{`\`, "", `\]`, "]]"}},
		{`[a\]b]`, []string{"a", "]", "b"}, []string{`\`, "ab]"}},
		{`[^\]]`, []string{"a", `\`}, []string{"]", ""}},
		{`[\\]`, []string{`\`}, []string{"]", ""}},
		{`[\\a]`, []string{`\`, "a"}, []string{"]", "b"}},
		{`[\a]`, []string{"a"}, []string{`\`, ""}},
		{`[\-]`, []string{"-"}, []string{`\`, "]"}},
		{`[a\-c]`, []string{"a", "-", "c"}, []string{"b", `\`}},
		// What has a `\` ahead begins no range, and neither does that `\`.
		{`[\a-c]`, []string{"a", "-", "c"}, []string{"b", `\`}},
		{`[\--c]`, []string{"-", "c"}, []string{"a", ".", `\`}},
		{`[\-c]`, []string{"-", "c"}, []string{"b", `\`, "]"}},
		// But a `\` ends one.
		{`[a-\]`, []string{`\`, "]", "^", "_", "`", "a"}, []string{"-", "[", "b"}},
		{`[a-\]]`, []string{`\]`, "a]", "]]"}, []string{"a", "]", `\`}},
		{`[a-\c]`, []string{`\`, "^", "a", "c"}, []string{"b", "-", "["}},
		{`[X-\]`, []string{"X", "Y", "[", `\`}, []string{"W", "]", "-"}},
		// A last one is itself.
		{`[\`, []string{`\`}, []string{"", "[", `[\`}},
		{`[a\`, []string{"a", `\`}, []string{"", "b"}},
		{`[^\`, []string{"a", "^"}, []string{"", `\`}},
		{`[a-\`, []string{`\`, "^", "a"}, []string{"-", "[", "b"}},
		{`[\\`, []string{`\`}, []string{"", "a"}},
		{`[\]`, []string{"]"}, []string{`\`, "", `\]`}},
	})
}

func TestP2_1_BytesAbove127(t *testing.T) {
	wantMatching(t, []matching{
		{"\xff", []string{"\xff"}, []string{"\xfe", "", "\u00ff"}},
		{"\u00e9*", []string{"\u00e9", "\u00e9a"}, []string{"\u00e8", "\xc3", "e"}},
		{"?\xa9", []string{"\u00e9", "a\xa9"}, []string{"\xa9", "\u00e8"}},
		{"[\xc0-\xc4]", []string{"\xc0", "\xc2", "\xc4"}, []string{"\xbf", "\xc5", "\u00c0"}},
		{"[\xff-\x80]", []string{"\x80", "\xc0", "\xff"}, []string{"\x7f", "-"}},
		{"[^\x80-\xff]", []string{"\x00", "a", "\x7f"}, []string{"\x80", "\xff"}},
		{"[\u00e9]", []string{"\xc3", "\xa9"}, []string{"\u00e9", "\xc2"}},
		{"[\u00e9-\u00e9]", []string{"\xc3", "\xa9", "\xb0", "\xc2"}, []string{"\xa8", "\xc4", "\u00e9"}},
		{"[\\\xff]", []string{"\xff"}, []string{"\\", "\xfe"}},
		{"*\x80", []string{"\x80", "\x80\x80", "\x81\x80"}, []string{"\x80\x81", ""}},
	})
}

func TestP2_1_LongTexts(t *testing.T) {
	const size = 1 << 20
	a := strings.Repeat("a", size)
	wantMatching(t, []matching{
		{a, []string{a}, []string{a[1:], a + "a", a[1:] + "b"}},
		{"*", []string{a}, nil},
		{"*b", []string{a + "b"}, []string{a, a + "ba"}},
		{"a*[b-d]", []string{a + "c"}, []string{a, a + "e"}},
		{strings.Repeat("?", size), []string{a}, []string{a[1:], a + "a"}},
		{strings.Repeat("[^b]", size), []string{a}, []string{a[1:], a[1:] + "b"}},
		{strings.Repeat("*", size) + "b", []string{"b", a + "b"}, []string{"", a}},
		{strings.Repeat("*a", size), []string{a, a + "a", "b" + a}, []string{a[1:], a + "b"}},
		{"[" + strings.Repeat("a-c", size) + "]", []string{"b"}, []string{"d", "", "-"}},
	})
}

// Whoever tries each length of each run in turn does not come to an end here.
func TestP2_1_ManyRuns(t *testing.T) {
	a := strings.Repeat("a", 1<<14)
	runs := strings.Repeat("*a", 100)
	wantMatching(t, []matching{
		{runs + "*b", []string{a + "b", a + "xb"}, []string{a, a + "bx"}},
		{runs + "*[b]", []string{a + "b"}, []string{a, a + "c"}},
		{"b" + runs, []string{"b" + a}, []string{a}},
		{strings.Repeat("*?a", 100) + "*b", []string{a + "b"}, []string{a}},
		{"*" + strings.Repeat("a", 100) + "b*", []string{a + "b"}, []string{a}},
	})
}

func TestP2_1_AllShortPatterns(t *testing.T) {
	l := texts(special, 2)
	for _, pattern := range texts(special, 4) {
		r := meant(pattern)
		for _, s := range l {
			wantMatch(t, pattern, s, r.MatchString(s))
		}
		endOnFault(t)
	}
}

func TestP2_1_AllShortClassesWithEachByte(t *testing.T) {
	l := eachByte()
	var wides []string
	for _, s := range l {
		wides = append(wides, wide(s))
	}
	for _, inside := range texts(`]^-\ac`, 5) {
		r := meant("[" + inside)
		for i, s := range l {
			wantMatch(t, "["+inside, s, r.MatchString(wides[i]))
		}
		endOnFault(t)
	}
}

func TestP2_1_RolledPatterns(t *testing.T) {
	roll := rolled(1)
	for _, alphabet := range []string{"*ab", "*?[]ab", special, `**[]^-\ab` + "\x00\x7f\x80\xff"} {
		yes := 0
		for range 4000 {
			pattern := rolledText(roll, alphabet, 14)
			r := meant(pattern)
			for range 25 {
				s := rolledText(roll, alphabet, 10)
				want := r.MatchString(wide(s))
				wantMatch(t, pattern, s, want)
				if want {
					yes++
				}
			}
			endOnFault(t)
		}
		if yes < 500 {
			t.Errorf("of %q only %d texts match", alphabet, yes)
		}
	}
}

func TestP2_2_Quote(t *testing.T) {
	for s, want := range map[string]string{
		"":          "",
		"abc":       "abc",
		"*":         `\*`,
		"?":         `\?`,
		"[":         `\[`,
		`\`:         `\\`,
		`\\`:        `\\\\`,
		`\*`:        `\\\*`,
		"]":         "]",
		"^-!":       "^-!",
		"[^a-b]*?":  `\[^a-b]\*\?`,
		"a*":        `a\*`,
		`a\`:        `a\\`,
		"\x00\n\r":  "\x00\n\r",
		"\xff*\x80": "\xff\\*\x80",
		"\u00e9":    "\u00e9",
	} {
		if got := glob.Quote(s); got != want {
			t.Errorf("Quote(%q) = %q; want %q", s, got, want)
		}
	}
	for _, s := range eachByte() {
		want := s
		if strings.Contains(`*?[\`, s) {
			want = `\` + s
		}
		if got := glob.Quote("x" + s + s); got != "x"+want+want {
			t.Errorf("Quote(%q) = %q", "x"+s+s, got)
		}
	}
	long := strings.Repeat("a*", 1<<18)
	if got := glob.Quote(long); got != strings.Repeat(`a\*`, 1<<18) {
		t.Errorf("Quote of a long text has %d bytes", len(got))
	}
}

func wantPlain(t *testing.T, pattern, want string, ok bool) {
	t.Helper()
	if got, gotOK := glob.Plain(pattern); got != want || gotOK != ok {
		t.Errorf("Plain(%q) = %q, %v; want %q, %v", pattern, got, gotOK, want, ok)
	}
}

func TestP2_3_PlainOfBytesAlone(t *testing.T) {
	for pattern, want := range map[string]string{
		"":         "",
		"abc":      "abc",
		`\*`:       "*",
		`\?`:       "?",
		`\[a]`:     "[a]",
		`\\`:       `\`,
		`\`:        `\`,
		`\\\`:      `\\`,
		`a\`:       `a\`,
		`\a\b`:     "ab",
		`\\\*`:     `\*`,
		"]^-":      "]^-",
		"\x00\xff": "\x00\xff",
		"\\\xff":   "\xff",
		"a\n":      "a\n",
	} {
		wantPlain(t, pattern, want, true)
	}
	long := strings.Repeat(`\*b`, 1<<18)
	if got, ok := glob.Plain(long); got != strings.Repeat("*b", 1<<18) || !ok {
		t.Errorf("Plain of a long pattern: %d bytes, %v", len(got), ok)
	}
}

func TestP2_3_PlainOfWhatIsNotBytesAlone(t *testing.T) {
	for _, pattern := range []string{
		"*", "?", "[", "[a]", "[a", "[]", "[^]", "a*", "a?", "a[b]", "*a", "?a", "[a]b", "a*b", `\**`, `\\*`, `\\?`, `\\[`, `\a*`, `a\\[b`, "ab[", "\xff*",
	} {
		wantPlain(t, pattern, "", false)
	}
}

func TestP2_3_PlainOfAllShortPatterns(t *testing.T) {
	for _, pattern := range texts(special, 5) {
		want, ok := "", true
		for _, part := range parts(pattern) {
			if part == "*" || part == "?" || strings.HasPrefix(part, "[") {
				want, ok = "", false
				break
			}
			want += part[len(part)-1:]
		}
		wantPlain(t, pattern, want, ok)
		endOnFault(t)
	}
}

func TestP2_4_All(t *testing.T) {
	for _, x := range []struct {
		pattern string
		l, want []string
	}{
		{"*", []string{"b", "a", "", "b"}, []string{"b", "a", "", "b"}},
		{"a*", []string{"ab", "b", "a", "ba", "aa", "ab"}, []string{"ab", "a", "aa", "ab"}},
		{"", []string{"", "a", ""}, []string{"", ""}},
		{"?", []string{"", "a", "ab", "b"}, []string{"a", "b"}},
		{"[^a]", []string{"a", "c", "b"}, []string{"c", "b"}},
		{`\*`, []string{"a", "*"}, []string{"*"}},
		{"a", []string{"b", "c"}, nil},
		{"[]", []string{"", "]", "[]"}, nil},
		{"*", nil, nil},
		{"*", []string{}, nil},
		{"[a", []string{"b", "a", "[a"}, []string{"a"}},
	} {
		had := slices.Clone(x.l)
		got := glob.All(x.pattern, x.l...)
		if !slices.Equal(got, x.want) {
			t.Errorf("All(%q, %q) = %q; want %q", x.pattern, x.l, got, x.want)
		}
		if !slices.Equal(x.l, had) {
			t.Errorf("All(%q, %q): the list is %q then", x.pattern, had, x.l)
		}
	}
	if got := glob.All("*"); len(got) != 0 {
		t.Errorf("All of no texts: %q", got)
	}
}

func TestP2_4_AllSharesNoMemory(t *testing.T) {
	room := []string{"a", "b", "c", "kept"}
	l := room[:3]
	first := glob.All("*", l...)
	second := glob.All("*", l...)
	first[0] = "changed"
	_ = append(first, "more")
	if !slices.Equal(room, []string{"a", "b", "c", "kept"}) {
		t.Errorf("the list, and its spare room, are %q then", room)
	}
	if !slices.Equal(second, []string{"a", "b", "c"}) {
		t.Errorf("the other answer is %q then", second)
	}
	l[1] = "changed"
	if !slices.Equal(second, []string{"a", "b", "c"}) {
		t.Errorf("the answer is %q, as the list changes", second)
	}
}

func TestP2_5_AQuotedTextIsMatchedByItAlone(t *testing.T) {
	l := append(texts(special, 3), eachByte()...)
	others := append(texts(special, 2), eachByte()...)
	for _, s := range l {
		quoted := glob.Quote(s)
		wantMatch(t, quoted, s, true)
		wantMatch(t, quoted, s+"a", false)
		wantMatch(t, quoted, s+`\`, false)
		wantMatch(t, quoted, "a"+s, strings.Repeat("a", len(s)+1) == s)
		if s != "" {
			wantMatch(t, quoted, s[1:], false)
			wantMatch(t, quoted, s[:len(s)-1], false)
		}
		for _, other := range others {
			wantMatch(t, quoted, other, other == s)
		}
		endOnFault(t)
	}
	roll := rolled(2)
	for range 2000 {
		s := rolledText(roll, special+"\x00\xff", 40)
		wantMatch(t, glob.Quote(s), s, true)
		wantMatch(t, glob.Quote(s), s+s+"a", false)
		wantPlain(t, glob.Quote(s), s, true)
		endOnFault(t)
	}
}

func TestP2_6_APlainPatternIsMatchedByItsBytesAlone(t *testing.T) {
	l := append(texts(special, 2), eachByte()...)
	plains := 0
	for _, pattern := range texts(special, 4) {
		plain, ok := glob.Plain(pattern)
		if !ok {
			continue
		}
		plains++
		wantMatch(t, pattern, plain, true)
		wantMatch(t, pattern, plain+"a", false)
		wantMatch(t, pattern, plain+`\`, false)
		wantMatch(t, pattern, "x"+plain, false)
		if plain != "" {
			wantMatch(t, pattern, plain[1:], false)
			wantMatch(t, pattern, plain[:len(plain)-1], false)
		}
		for _, s := range l {
			wantMatch(t, pattern, s, s == plain)
		}
		endOnFault(t)
	}
	if plains < 1000 {
		t.Errorf("only %d patterns are plain", plains)
	}
}

// closed tells whether what is put behind a pattern begins a part of its own: it does not, if a last `\`, or a class without an end, takes it in.
func closed(pattern string) bool {
	l := parts(pattern + "*")
	return l[len(l)-1] == "*"
}

// within tells whether a text that matches a pattern is within s.
func within(pattern, s string) bool {
	for from := range len(s) + 1 {
		for to := from; to <= len(s); to++ {
			if glob.Match(pattern, s[from:to]) {
				return true
			}
		}
	}
	return false
}

func TestP2_7_RunsAtEitherEnd(t *testing.T) {
	for _, x := range []struct{ pattern, s string }{
		{"", ""}, {"ab", "ab"}, {"a?c", "abc"}, {"[a-c]", "b"}, {"[^a]", "x"}, {`\*`, "*"}, {"a*b", "axxb"}, {"*", "abc"}, {`[\]]`, "]"}, {"[^]", "a"}, {"\xff", "\xff"},
	} {
		wantMatch(t, x.pattern, x.s, true)
		for _, ahead := range []string{"", "a", "x\n", "ab*", "\xff\x00", `\`} {
			for _, behind := range []string{"", "b", "\ny", "[ab", "\x80", `\`} {
				wantMatch(t, "*"+x.pattern+"*", ahead+x.s+behind, true)
			}
		}
	}
	wantMatch(t, "*ab*", "xaxb", false)
	wantMatch(t, "*[a-c]*", "xyz", false)
	wantMatch(t, "*[^a]*", "aaa", false)
	// Behind these a `*` is no run.
	wantMatch(t, `*\*`, "x*", true)
	wantMatch(t, `*\*`, `x\y`, false)
	wantMatch(t, "*[a*", "x*", true)
	wantMatch(t, "*[a*", "ay", false)
}

func TestP2_7_RunsAtEitherEndOfAllShortPatterns(t *testing.T) {
	l := texts(`ab]-\*`, 3)
	for _, pattern := range texts(special, 3) {
		if !closed(pattern) {
			continue
		}
		for _, s := range l {
			wantMatch(t, "*"+pattern+"*", s, within(pattern, s))
		}
		endOnFault(t)
	}
}
