package num_test

import (
	"math"
	"math/big"
	"regexp"
	"strings"
	"testing"

	"mews/api"
	"mews/num"
)

const (
	least    = math.MinInt64
	greatest = math.MaxInt64
)

// decimal is what the document calls one, but for the range of the number.
var decimal = regexp.MustCompile(`\A(0|-?[1-9][0-9]*)\z`)

// numbers are those at, and beside, each place where something turns: 0, the powers of 2 and of 10, both ends of the type.
func numbers() []int64 {
	seen := map[int64]bool{}
	var l []int64
	put := func(n int64) {
		if !seen[n] {
			seen[n] = true
			l = append(l, n)
		}
	}
	around := func(n int64) {
		for d := int64(-2); d <= 2; d++ {
			put(n + d) // modulo 2^64: what is past one end is at the other one
		}
	}
	around(0)
	around(least)
	for p := int64(1); p > 0; p *= 2 {
		around(p)
		around(-p)
	}
	for i, p := 0, int64(1); i < 19; i, p = i+1, p*10 {
		around(p)
		around(-p)
	}
	for n, i := uint64(1), 0; i < 60; i++ {
		n = n*6364136223846793005 + 1442695040888963407
		put(int64(n) >> (i % 40))
	}
	return l
}

// texts are all of up to so many bytes, made of an alphabet.
func texts(alphabet string, most int) []string {
	all := []string{""}
	last := all
	for range most {
		var next []string
		for _, s := range last {
			for i := range len(alphabet) {
				next = append(next, s+alphabet[i:i+1])
			}
		}
		all = append(all, next...)
		last = next
	}
	return all
}

// meant is the number of which a text is the decimal, as the document's words say it.
func meant(s string) (int64, bool) {
	if !decimal.MatchString(s) {
		return 0, false
	}
	n, ok := new(big.Int).SetString(s, 10)
	if !ok || !n.IsInt64() {
		return 0, false
	}
	return n.Int64(), true
}

func wantParse(t *testing.T, s string, n int64, ok bool) {
	t.Helper()
	if gotN, gotOK := num.Parse(s); gotN != n || gotOK != ok {
		t.Errorf("Parse(%.60q) = %d, %v; want %d, %v", s, gotN, gotOK, n, ok)
	}
}

func TestP1_1_ParseTellsDecimals(t *testing.T) {
	for s, n := range map[string]int64{
		"0": 0, "1": 1, "9": 9, "10": 10, "100": 100, "1234567890": 1234567890,
		"-1": -1, "-7": -7, "-9": -9, "-10": -10, "-305": -305,
		"9223372036854775807":  greatest,
		"9223372036854775806":  greatest - 1,
		"9223372036854775799":  greatest - 8,
		"-9223372036854775808": least,
		"-9223372036854775807": least + 1,
		"-9223372036854775799": least + 9,
		"1000000000000000000":  1000000000000000000,
		"-1000000000000000000": -1000000000000000000,
	} {
		wantParse(t, s, n, true)
	}
}

func TestP1_1_ParseRefusesWhatIsNoDecimal(t *testing.T) {
	for _, s := range []string{
		"", "-", "--", "--1", "-0", "-00", "00", "007", "-007", "01", "-01", "+0", "+1", "+", "1-", "1-1", "-1-",
		" 1", "1 ", "1\n", "\x001", "1\x00", "1.0", "1.", ".1", "1e3", "1_000", "0x1", "0b1", "0o7", "a", "1a", "a1", "-a",
		"\xff", "1\xff", "\u0661", "\uff11", "\u22121", "true", "nil",
	} {
		wantParse(t, s, 0, false)
	}
}

func TestP1_1_ParseRefusesWhatIsPastTheEnds(t *testing.T) {
	for _, s := range []string{
		"9223372036854775808", "9223372036854775809", "9223372036854775810", "9223372036854775900", "9300000000000000000", "9999999999999999999",
		"-9223372036854775809", "-9223372036854775810", "-9223372036854775900", "-9300000000000000000", "-9999999999999999999",
		"10000000000000000000", "-10000000000000000000", "18446744073709551615", "18446744073709551616", "-18446744073709551616", "18446744073709551617",
		"340282366920938463463374607431768211456",
		strings.Repeat("9", 100000), "-" + strings.Repeat("9", 100000), "1" + strings.Repeat("0", 100000),
		"0" + strings.Repeat("0", 100000), "-" + strings.Repeat("0", 100000) + "1",
	} {
		wantParse(t, s, 0, false)
	}
}

func TestP1_1_ParseOfAllShortTexts(t *testing.T) {
	for _, s := range texts("-+0159 a", 5) {
		n, ok := meant(s)
		wantParse(t, s, n, ok)
	}
}

func TestP1_1_ParseWithEachByteInEachPlace(t *testing.T) {
	for _, whole := range []string{"7", "-7", "12345", "-12345", "9223372036854775807", "-9223372036854775808"} {
		for place := range len(whole) {
			for c := range 256 {
				b := []byte(whole)
				b[place] = byte(c)
				n, ok := meant(string(b))
				wantParse(t, string(b), n, ok)
			}
		}
	}
}

func TestP1_1_TextAndLen(t *testing.T) {
	for n, s := range map[int64]string{
		0: "0", 1: "1", -1: "-1", 9: "9", 10: "10", -9: "-9", -10: "-10", 99: "99", 100: "100", -305: "-305",
		greatest: "9223372036854775807", greatest - 1: "9223372036854775806",
		least: "-9223372036854775808", least + 1: "-9223372036854775807",
	} {
		if got := num.Text(n); got != s {
			t.Errorf("Text(%d) = %q; want %q", n, got, s)
		}
		if got := num.Len(n); got != len(s) {
			t.Errorf("Len(%d) = %d; want %d", n, got, len(s))
		}
	}
	for _, n := range numbers() {
		want := big.NewInt(n).String()
		if got := num.Text(n); got != want {
			t.Errorf("Text(%d) = %q", n, got)
		}
		if got := num.Len(n); got != len(want) {
			t.Errorf("Len(%d) = %d", n, got)
		}
		wantParse(t, want, n, true)
	}
}

// fits is a number that may be too great or too small for the type.
func fits(n *big.Int) (int64, bool) {
	if !n.IsInt64() {
		return 0, false
	}
	return n.Int64(), true
}

func TestP1_2_AddAndSub(t *testing.T) {
	for _, x := range []struct {
		a, b int64
		sum  int64
		add  bool
		diff int64
		sub  bool
	}{
		{2, 3, 5, true, -1, true},
		{-2, -3, -5, true, 1, true},
		{0, 0, 0, true, 0, true},
		{greatest, 0, greatest, true, greatest, true},
		{least, 0, least, true, least, true},
		{greatest, 1, 0, false, greatest - 1, true},
		{least, -1, 0, false, least + 1, true},
		{greatest, -1, greatest - 1, true, 0, false},
		{least, 1, least + 1, true, 0, false},
		{greatest, greatest, 0, false, 0, true},
		{least, least, 0, false, 0, true},
		{greatest, least, -1, true, 0, false},
		{least, greatest, -1, true, 0, false},
		{0, least, least, true, 0, false},
		{-1, least, 0, false, greatest, true},
		{0, greatest, greatest, true, -greatest, true},
		{-1, greatest, greatest - 1, true, least, true},
		{-2, greatest, greatest - 2, true, 0, false},
		{1 << 62, 1 << 62, 0, false, 0, true},
		{-1 << 62, -1 << 62, least, true, 0, true},
	} {
		if n, ok := num.Add(x.a, x.b); n != x.sum || ok != x.add {
			t.Errorf("Add(%d, %d) = %d, %v; want %d, %v", x.a, x.b, n, ok, x.sum, x.add)
		}
		if n, ok := num.Sub(x.a, x.b); n != x.diff || ok != x.sub {
			t.Errorf("Sub(%d, %d) = %d, %v; want %d, %v", x.a, x.b, n, ok, x.diff, x.sub)
		}
	}
}

func TestP1_2_AddAndSubOverTheWholeRange(t *testing.T) {
	l := numbers()
	for _, a := range l {
		for _, b := range l {
			wide, other := big.NewInt(a), big.NewInt(b)
			n, ok := fits(new(big.Int).Add(wide, other))
			if got, gotOK := num.Add(a, b); got != n || gotOK != ok {
				t.Fatalf("Add(%d, %d) = %d, %v; want %d, %v", a, b, got, gotOK, n, ok)
			}
			n, ok = fits(new(big.Int).Sub(wide, other))
			if got, gotOK := num.Sub(a, b); got != n || gotOK != ok {
				t.Fatalf("Sub(%d, %d) = %d, %v; want %d, %v", a, b, got, gotOK, n, ok)
			}
		}
	}
}

func TestP1_3_Read(t *testing.T) {
	for _, x := range []struct {
		s         string
		low, high int64
		n         int64
		e         api.Errno
	}{
		{"5", 0, 9, 5, api.OK},
		{"0", 0, 9, 0, api.OK},
		{"9", 0, 9, 9, api.OK},
		{"-1", 0, 9, 0, api.ErrRange},
		{"10", 0, 9, 0, api.ErrRange},
		{"12", 0, 9, 0, api.ErrRange},
		{"-3", -3, -3, -3, api.OK},
		{"-4", -3, -3, 0, api.ErrRange},
		{"-2", -3, -3, 0, api.ErrRange},
		{"9223372036854775807", least, greatest, greatest, api.OK},
		{"-9223372036854775808", least, greatest, least, api.OK},
		{"9223372036854775807", least, greatest - 1, 0, api.ErrRange},
		{"-9223372036854775808", least + 1, greatest, 0, api.ErrRange},
		{"-9223372036854775808", least, least, least, api.OK},
		{"9223372036854775807", greatest, greatest, greatest, api.OK},
		// No number is both at least the greater and at most the lesser one.
		{"5", 9, 0, 0, api.ErrRange},
		{"0", 9, 0, 0, api.ErrRange},
		{"9", 9, 0, 0, api.ErrRange},
		{"10", 9, 0, 0, api.ErrRange},
		{"-1", 9, 0, 0, api.ErrRange},
		{"0", greatest, least, 0, api.ErrRange},
		{"9223372036854775807", greatest, least, 0, api.ErrRange},
		{"-9223372036854775808", greatest, least, 0, api.ErrRange},
		// What is no decimal is that ahead of all else.
		{"x", 0, 9, 0, api.ErrNum},
		{"", 0, 9, 0, api.ErrNum},
		{"-", 0, 9, 0, api.ErrNum},
		{"-0", 0, 9, 0, api.ErrNum},
		{"007", 0, 9, 0, api.ErrNum},
		{"012", 0, 9, 0, api.ErrNum},
		{"+5", 0, 9, 0, api.ErrNum},
		{"", 9, 0, 0, api.ErrNum},
		{"9223372036854775808", 0, 9, 0, api.ErrNum},
		{"9223372036854775808", least, greatest, 0, api.ErrNum},
		{"-9223372036854775809", least, greatest, 0, api.ErrNum},
	} {
		if n, e := num.Read(x.s, x.low, x.high); n != x.n || e != x.e {
			t.Errorf("Read(%q, %d, %d) = %d, %d; want %d, %d", x.s, x.low, x.high, n, e, x.n, x.e)
		}
	}
}

func TestP1_3_ReadBesideItsEnds(t *testing.T) {
	l := numbers()
	for _, n := range l {
		for _, end := range l {
			want, e := n, api.OK
			if n < end {
				want, e = 0, api.ErrRange
			}
			if got, gotE := num.Read(num.Text(n), end, greatest); got != want || gotE != e {
				t.Fatalf("Read of %d from %d on = %d, %d", n, end, got, gotE)
			}
			want, e = n, api.OK
			if n > end {
				want, e = 0, api.ErrRange
			}
			if got, gotE := num.Read(num.Text(n), least, end); got != want || gotE != e {
				t.Fatalf("Read of %d up to %d = %d, %d", n, end, got, gotE)
			}
		}
	}
}

func TestP1_4_Clip(t *testing.T) {
	for _, x := range []struct{ n, size, want int64 }{
		{0, 5, 0}, {2, 5, 2}, {4, 5, 4}, {5, 5, 5}, {6, 5, 5}, {9, 5, 5}, {greatest, 5, 5},
		{-1, 5, 4}, {-2, 5, 3}, {-5, 5, 0}, {-6, 5, 0}, {-9, 5, 0}, {least, 5, 0},
		{0, 1, 0}, {1, 1, 1}, {2, 1, 1}, {-1, 1, 0}, {-2, 1, 0},
		{0, 0, 0}, {3, 0, 0}, {-1, 0, 0}, {greatest, 0, 0}, {least, 0, 0},
		{0, -1, 0}, {-1, -1, 0}, {3, -5, 0}, {-3, -5, 0}, {greatest, -1, 0}, {least, -1, 0},
		{0, least, 0}, {greatest, least, 0}, {least, least, 0},
		{greatest, greatest, greatest}, {greatest - 1, greatest, greatest - 1}, {0, greatest, 0},
		{-1, greatest, greatest - 1}, {least + 1, greatest, 0}, {least, greatest, 0}, {least + 2, greatest, 1},
	} {
		if got := num.Clip(x.n, x.size); got != x.want {
			t.Errorf("Clip(%d, %d) = %d; want %d", x.n, x.size, got, x.want)
		}
	}
}

// place is what the document's words make of a place, without a bound to the numbers on the way.
func place(n, size int64) int64 {
	if size < 1 {
		return 0
	}
	p, end, zero := big.NewInt(n), big.NewInt(size), new(big.Int)
	if n < 0 {
		p.Add(p, end)
	}
	if p.Cmp(zero) < 0 {
		p = zero
	}
	if p.Cmp(end) > 0 {
		p = end
	}
	return p.Int64()
}

func TestP1_4_ClipOverTheWholeRange(t *testing.T) {
	l := numbers()
	for _, n := range l {
		for _, size := range l {
			if got, want := num.Clip(n, size), place(n, size); got != want {
				t.Fatalf("Clip(%d, %d) = %d; want %d", n, size, got, want)
			}
		}
	}
}

func TestP1_5_DecimalsAreTheTextsOfTheirNumbers(t *testing.T) {
	l := texts("-+0129 ", 5)
	for _, n := range numbers() {
		s := num.Text(n)
		l = append(l, s, "-"+s, "0"+s, "+"+s, s+"0", s+"9", " "+s, s+" ", strings.TrimPrefix(s, "-"))
	}
	for _, s := range l {
		n, ok := num.Parse(s)
		if ok != (num.Text(n) == s) {
			t.Errorf("%q: parsed as %d, %v, whose text is %q", s, n, ok, num.Text(n))
		}
	}
}

func TestP1_6_WhatIsAddedCanBeTakenAway(t *testing.T) {
	l := numbers()
	held := 0
	for _, a := range l {
		for _, b := range l {
			sum, ok := num.Add(a, b)
			if !ok {
				continue
			}
			held++
			if back, ok := num.Sub(sum, b); !ok || back != a {
				t.Fatalf("%d and %d are %d, less %d: %d, %v", a, b, sum, b, back, ok)
			}
			if back, ok := num.Sub(sum, a); !ok || back != b {
				t.Fatalf("%d and %d are %d, less %d: %d, %v", a, b, sum, a, back, ok)
			}
		}
	}
	if held < len(l)*len(l)/2 {
		t.Errorf("only %d of %d pairs could be added", held, len(l)*len(l))
	}
}
