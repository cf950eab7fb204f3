package unit_test

import (
	"encoding/binary"
	"hash/crc32"
	"math"
	"slices"
	"strconv"
	"strings"
	"testing"

	"mews/api"
	"mews/unit"
)

// of is the unit of some commands.
func of(cmds ...[]string) api.Unit { return api.Unit{Cmds: cmds} }

// cmd is a command of some arguments.
func cmd(args ...string) []string { return args }

// ping is the unit of the document's example.
var ping = of(cmd("PING"))

// many is a unit of so many commands of one argument each.
func many(n int, arg string) api.Unit {
	l := make([][]string, n)
	for i := range l {
		l[i] = []string{arg}
	}
	return api.Unit{Cmds: l}
}

// wide is a command of so many arguments, all of them one text.
func wide(n int, arg string) []string {
	l := make([]string, n)
	for i := range l {
		l[i] = arg
	}
	return l
}

// long is a text of so many bytes.
func long(n int) string { return strings.Repeat("x", n) }

// rolled gives numbers that look as if they were thrown; of one seed always the same ones.
func rolled(seed uint64) func() uint64 {
	return func() uint64 {
		seed = seed*6364136223846793005 + 1442695040888963407
		return (seed ^ seed>>29) >> 11
	}
}

// thrown is a unit of up to 5 commands of up to 4 arguments, of up to 12 rolled bytes each.
func thrown(next func() uint64) api.Unit {
	u := api.Unit{}
	for range 1 + next()%5 {
		var args []string
		for range 1 + next()%4 {
			arg := make([]byte, next()%13)
			for i := range arg {
				arg[i] = byte(next())
			}
			args = append(args, string(arg))
		}
		u.Cmds = append(u.Cmds, args)
	}
	return u
}

// odd are units with arguments of any bytes, and such as look like something else.
func odd() []api.Unit {
	l := []api.Unit{
		ping,
		of(cmd("")),
		of(cmd("", "", "")),
		of(cmd(""), cmd(""), cmd("")),
		of(cmd("SET", "a", "5"), cmd("INCRBY", "a", "3")),
		of(cmd("\r\n"), cmd("\n", "\r")),
		of(cmd("*1\r\n$4\r\nPING\r\n")),
		of(cmd("$4\r\nPING"), cmd("*1", "$4")),
		of(cmd("a\x00b", "\x80\xff", "\xc3\x28", "é", "日本", "\"'\\ ")),
		of(wide(300, "ab"), wide(1, ""), wide(12, "\x55")),
		many(100, "PING"),
		of(cmd(put(ping), put(of(cmd("U"))))),
	}
	for b := range 256 {
		l = append(l, of(cmd(string([]byte{byte(b)}))))
	}
	return l
}

// request is a command's bytes, as the document's words say it.
func request(args ...string) string {
	var b strings.Builder
	b.WriteString("*" + strconv.Itoa(len(args)) + "\r\n")
	for _, arg := range args {
		b.WriteString("$" + strconv.Itoa(len(arg)) + "\r\n" + arg + "\r\n")
	}
	return b.String()
}

// load is the bytes of a unit's commands.
func load(u api.Unit) string {
	var b strings.Builder
	for _, args := range u.Cmds {
		b.WriteString(request(args...))
	}
	return b.String()
}

// summed is a text with its sum behind, as Go's library has it.
func summed(s string) string {
	return string(binary.LittleEndian.AppendUint32([]byte(s), crc32.ChecksumIEEE([]byte(s))))
}

// framed is what a unit's bytes are, if its commands' are these: whatever they are.
func framed(load string) string {
	return summed(string(binary.LittleEndian.AppendUint32([]byte{0x55}, uint32(len(load)))) + load)
}

// put is a unit's bytes, as the document's words say it.
func put(u api.Unit) string { return framed(load(u)) }

// row is units' bytes, one behind the other.
func row(l ...api.Unit) string {
	var b strings.Builder
	for _, u := range l {
		b.WriteString(put(u))
	}
	return b.String()
}

// numbered reads a sign, a decimal and a line's end: the number, and what is behind.
func numbered(s, sign string) (int, string, bool) {
	line, rest, ended := strings.Cut(s, "\r\n")
	digits, signed := strings.CutPrefix(line, sign)
	n, err := strconv.Atoi(digits)
	if !ended || !signed || err != nil || n < 0 || strconv.Itoa(n) != digits {
		return 0, "", false
	}
	return n, rest, true
}

// meantCmd reads the command with whose bytes a text begins: it, and what is behind.
func meantCmd(s string) ([]string, string, bool) {
	count, s, ok := numbered(s, "*")
	if !ok || count < 1 || count > 1<<16 {
		return nil, "", false
	}
	var args []string
	for range count {
		size, rest, ok := numbered(s, "$")
		if !ok || size > 1<<20 || len(rest) < size+2 || rest[size:size+2] != "\r\n" {
			return nil, "", false
		}
		args = append(args, rest[:size])
		s = rest[size+2:]
	}
	return args, s, true
}

// meantCmds reads the commands whose bytes a text is.
func meantCmds(s string) ([][]string, bool) {
	var l [][]string
	for s != "" {
		args, rest, ok := meantCmd(s)
		if !ok {
			return nil, false
		}
		l = append(l, args)
		s = rest
	}
	return l, 1 <= len(l) && len(l) <= 1<<12
}

// meantTake is what Take answers, as the document's words say it.
func meantTake(s string) (api.Unit, int, api.Errno) {
	if len(s) == 0 {
		return api.Unit{}, 0, api.ErrShort
	}
	if s[0] != 0x55 {
		return api.Unit{}, 0, api.ErrForm
	}
	if len(s) < 5 {
		return api.Unit{}, 0, api.ErrShort
	}
	size := int64(binary.LittleEndian.Uint32([]byte(s[1:5])))
	if size > 1<<22 {
		return api.Unit{}, 0, api.ErrLong
	}
	if int64(len(s)) < size+9 {
		return api.Unit{}, 0, api.ErrShort
	}
	if summed(s[:5+size]) != s[:9+size] {
		return api.Unit{}, 0, api.ErrSum
	}
	cmds, ok := meantCmds(s[5 : 5+size])
	if !ok {
		return api.Unit{}, 0, api.ErrForm
	}
	return api.Unit{Cmds: cmds}, int(size + 9), api.OK
}

func same(a, b api.Unit) bool { return slices.EqualFunc(a.Cmds, b.Cmds, slices.Equal[[]string]) }

// clone is a unit that shares no list with another one.
func clone(u api.Unit) api.Unit {
	l := make([][]string, len(u.Cmds))
	for i, args := range u.Cmds {
		l[i] = slices.Clone(args)
	}
	return api.Unit{Cmds: l}
}

// told is as much of a unit as there is any use in telling.
func told(u api.Unit) string {
	var b strings.Builder
	b.WriteString(strconv.Itoa(len(u.Cmds)) + " commands:")
	for _, args := range u.Cmds[:min(len(u.Cmds), 4)] {
		b.WriteString(" [" + strconv.Itoa(len(args)) + ":")
		for _, arg := range args[:min(len(args), 4)] {
			b.WriteString(" " + strconv.Quote(arg[:min(len(arg), 20)]))
		}
		b.WriteString("]")
	}
	return b.String()
}

// turned is a text in which bits are the other way: those that are set of 32 ones, one behind the other, from a place on; in each byte the lowest one is the first.
func turned(s string, place int, bits uint32) string {
	l := []byte(s)
	for i := range 32 {
		if bits>>i&1 == 1 {
			at := place + i
			l[at/8] ^= 1 << (at % 8)
		}
	}
	return string(l)
}

// bursts are bits of which the first one and the last one are set, so many in all.
func bursts(size int, next func() uint64) []uint32 {
	last := uint32(1) << (size - 1)
	all := last | (last - 1)
	l := []uint32{1 | last, all}
	for range 4 {
		l = append(l, (uint32(next())&all)|1|last)
	}
	return l
}

func wantPut(t *testing.T, u api.Unit, want string) {
	s, e := unit.Put(u)
	if e != api.OK || s != want {
		t.Helper()
		t.Fatalf("Put(%s) = %.80q of %d bytes, %d; want %.80q of %d", told(u), s, len(s), e, want, len(want))
	}
}

func wantNoPut(t *testing.T, u api.Unit, want api.Errno) {
	s, e := unit.Put(u)
	if e != want || s != "" {
		t.Helper()
		t.Fatalf("Put(%s) = %.80q, %d; want nothing, %d", told(u), s, e, want)
	}
}

func wantTaken(t *testing.T, s string, want api.Unit, wantSize int) {
	u, size, e := unit.Take(s)
	if e != api.OK || size != wantSize || !same(u, want) {
		t.Helper()
		t.Fatalf("Take(%.80q), of %d bytes = %s, %d, %d; want %s, %d, 0", s, len(s), told(u), size, e, told(want), wantSize)
	}
}

func wantNone(t *testing.T, s string, want api.Errno) {
	u, size, e := unit.Take(s)
	if e != want || size != 0 || u.Cmds != nil {
		t.Helper()
		t.Fatalf("Take(%.80q), of %d bytes = %s, %d, %d; want nothing, %d", s, len(s), told(u), size, e, want)
	}
}

// wantMeant holds what Take answers against the document's words.
func wantMeant(t *testing.T, s string) {
	t.Helper()
	if u, size, e := meantTake(s); e == api.OK {
		wantTaken(t, s, u, size)
	} else {
		wantNone(t, s, e)
	}
}

func wantAll(t *testing.T, s string, wantSize int, want ...api.Unit) {
	l, size := unit.All(s)
	if size != wantSize || !slices.EqualFunc(l, want, same) {
		t.Helper()
		t.Fatalf("All(%.80q), of %d bytes: %d units, of %d bytes; want %d, of %d", s, len(s), len(l), size, len(want), wantSize)
	}
}

func wantSame(t *testing.T, a, b api.Unit, want bool) {
	if unit.Same(a, b) != want || unit.Same(b, a) != want {
		t.Helper()
		t.Fatalf("Same(%s, %s), and the other way round: %v, %v; want %v", told(a), told(b), unit.Same(a, b), unit.Same(b, a), want)
	}
}

// byHand are units and their bytes, which were not worked out by this program.
func byHand() map[string]api.Unit {
	return map[string]api.Unit{
		"\x55\x0e\x00\x00\x00*1\r\n$4\r\nPING\r\n\xc1\x27\x4f\x12":                                                                  of(cmd("PING")),
		"\x55\x0a\x00\x00\x00*1\r\n$0\r\n\r\n\x2c\xbb\x20\x71":                                                                      of(cmd("")),
		"\x55\x1b\x00\x00\x00*3\r\n$3\r\nSET\r\n$1\r\na\r\n$1\r\n5\r\n\xe2\x65\x54\x5f":                                             of(cmd("SET", "a", "5")),
		"\x55\x39\x00\x00\x00*3\r\n$3\r\nSET\r\n$1\r\na\r\n$1\r\n5\r\n*3\r\n$6\r\nINCRBY\r\n$1\r\na\r\n$1\r\n3\r\n\x0b\xb8\x5b\x7f": of(cmd("SET", "a", "5"), cmd("INCRBY", "a", "3")),
		"\x55\x0e\x00\x00\x00*1\r\n$4\r\n\x00\xff\r\n\r\n\xc2\x3b\xa5\x70":                                                          of(cmd("\x00\xff\r\n")),
		"\x55\x4a\x01\x00\x00" + strings.Repeat("*1\r\n$1\r\na\r\n", 30) + "\xa7\x97\x7d\xce":                                       many(30, "a"),
	}
}

func TestP15_1_TheExample(t *testing.T) {
	s, e := unit.Put(ping)
	if e != api.OK || len(s) != 23 || s[:5] != "\x55\x0e\x00\x00\x00" || s[5:19] != "*1\r\n$4\r\nPING\r\n" || s[19:] != "\xc1\x27\x4f\x12" {
		t.Fatalf("Put of PING = %q, %d", s, e)
	}
}

func TestP15_1_ByHand(t *testing.T) {
	for s, u := range byHand() {
		wantPut(t, u, s)
	}
}

func TestP15_1_TheLimitsAreThose(t *testing.T) {
	if unit.MaxCmds != 4096 || unit.MaxLoad != 4194304 || unit.Over != 9 {
		t.Fatalf("%d commands, %d bytes, %d over", unit.MaxCmds, unit.MaxLoad, unit.Over)
	}
}

func TestP15_1_AnyBytes(t *testing.T) {
	for _, u := range odd() {
		wantPut(t, u, put(u))
	}
}

func TestP15_1_RolledUnits(t *testing.T) {
	next := rolled(1)
	for range 2000 {
		u := thrown(next)
		wantPut(t, u, put(u))
	}
}

func TestP15_1_ItHasNineBytesMoreThanItsCommands(t *testing.T) {
	next := rolled(2)
	for range 200 {
		u := thrown(next)
		s, _ := unit.Put(u)
		if len(s) != len(load(u))+9 {
			t.Fatalf("%s: %d bytes of %d", told(u), len(s), len(load(u)))
		}
	}
}

// Of commands of each length, so that the length is of one byte, of two and of three.
func TestP15_1_LengthsOfSomeBytes(t *testing.T) {
	for _, n := range []int{0, 1, 200, 244, 245, 246, 247, 255, 256, 257, 65522, 65523, 65524, 65535, 65536, 65537, 1 << 19} {
		u := of(cmd(long(n)))
		wantPut(t, u, put(u))
	}
}

func TestP15_1_NoCommand(t *testing.T) {
	wantNoPut(t, api.Unit{}, api.ErrArg)
	wantNoPut(t, api.Unit{Cmds: [][]string{}}, api.ErrArg)
}

func TestP15_1_AsManyCommandsAsMayBe(t *testing.T) {
	for _, n := range []int{1, 2, 4095, 4096} {
		wantPut(t, many(n, "PING"), put(many(n, "PING")))
		wantPut(t, many(n, ""), put(many(n, "")))
	}
	for _, n := range []int{4097, 4098, 8192, 1 << 16, 1 << 20} {
		wantNoPut(t, many(n, "PING"), api.ErrArg)
		wantNoPut(t, many(n, ""), api.ErrArg)
	}
}

func TestP15_1_ACommandWithoutAnArgument(t *testing.T) {
	for _, none := range [][]string{nil, {}} {
		wantNoPut(t, of(none), api.ErrArg)
		wantNoPut(t, of(none, cmd("PING")), api.ErrArg)
		wantNoPut(t, of(cmd("PING"), none), api.ErrArg)
		wantNoPut(t, of(cmd("PING"), none, cmd("PING")), api.ErrArg)
	}
	u := many(4096, "PING")
	u.Cmds[4095] = nil
	wantNoPut(t, u, api.ErrArg)
}

func TestP15_1_AsManyArgumentsAsMayBe(t *testing.T) {
	for _, n := range []int{1, 9, 10, 11, 65535, 65536} {
		u := of(cmd("PING"), wide(n, "ab"), cmd("PING"))
		wantPut(t, u, put(u))
	}
	for _, n := range []int{65537, 65538, 1 << 17, 1 << 20} {
		wantNoPut(t, of(wide(n, "")), api.ErrArg)
		wantNoPut(t, of(cmd("PING"), wide(n, "ab")), api.ErrArg)
		wantNoPut(t, of(wide(n, "ab"), cmd("PING")), api.ErrArg)
	}
}

func TestP15_1_ArgumentsAsLongAsMayBe(t *testing.T) {
	for _, n := range []int{1048575, 1048576} {
		u := of(cmd("a", long(n), "b"), cmd("PING"), cmd(long(n)))
		wantPut(t, u, put(u))
	}
	for _, n := range []int{1048577, 1048578, 1 << 21, 1 << 23} {
		wantNoPut(t, of(cmd(long(n))), api.ErrArg)
		wantNoPut(t, of(cmd("a", long(n), "b")), api.ErrArg)
		wantNoPut(t, of(cmd("PING"), cmd("a", long(n))), api.ErrArg)
		wantNoPut(t, of(cmd(long(n)), cmd("PING")), api.ErrArg)
	}
}

// full is a unit whose commands have so many bytes, from 4 * 2^20 on at most.
func full(size int) api.Unit {
	u := of(cmd(long(1<<20), long(1<<20)), cmd(long(1<<20)))
	// The last command's own bytes: `*1`, `$` and seven digits at most, and three lines' ends.
	last := size - len(load(u)) - len("*1\r\n$1000000\r\n\r\n")
	for len(load(u))+len(request(long(last))) < size {
		last++
	}
	u.Cmds = append(u.Cmds, []string{long(last)})
	return u
}

func TestP15_1_AsManyBytesAsMayBe(t *testing.T) {
	for _, size := range []int{1<<22 - 2, 1<<22 - 1, 1 << 22} {
		u := full(size)
		if len(load(u)) != size {
			t.Fatalf("made of %d bytes, not of %d", len(load(u)), size)
		}
		wantPut(t, u, put(u))
	}
	for _, size := range []int{1<<22 + 1, 1<<22 + 2} {
		u := full(size)
		if len(load(u)) != size {
			t.Fatalf("made of %d bytes, not of %d", len(load(u)), size)
		}
		wantNoPut(t, u, api.ErrLong)
	}
}

// The bytes beside the arguments' count, too.
func TestP15_1_ManyShortArgumentsAreTooManyBytes(t *testing.T) {
	wantNoPut(t, of(cmd(long(1<<20), long(1<<20), long(1<<20), long(1<<20))), api.ErrLong)
	wantNoPut(t, many(4096, long(1015)), api.ErrLong)
	wantNoPut(t, many(4096, long(1024)), api.ErrLong)
	fits := of(wide(65536, long(57)))
	fits.Cmds[0] = fits.Cmds[0][:65535]
	wantPut(t, fits, put(fits))
	wantNoPut(t, of(wide(65536, long(57))), api.ErrLong)
	wantNoPut(t, of(wide(65536, long(64))), api.ErrLong)
	empties := of(wide(65536, ""), wide(65536, ""), wide(65536, ""), wide(65536, ""), wide(65536, ""), wide(65536, ""), wide(65536, ""), wide(65536, ""), wide(65536, ""), wide(65536, ""))
	wantPut(t, empties, put(empties))
	empties.Cmds = append(empties.Cmds, wide(65536, ""))
	wantNoPut(t, empties, api.ErrLong)
}

func TestP15_1_FarTooManyBytes(t *testing.T) {
	args := wide(65536, long(1<<20))
	u := api.Unit{}
	for range 4096 {
		u.Cmds = append(u.Cmds, args)
	}
	wantNoPut(t, u, api.ErrLong)
	wantNoPut(t, of(cmd("PING"), args), api.ErrLong)
}

func TestP15_1_AWrongCommandIsToldAheadOfTooManyBytes(t *testing.T) {
	far := wide(10, long(1<<20))
	wantNoPut(t, of(far, far, nil), api.ErrArg)
	wantNoPut(t, of(far, cmd(long(1<<20+1))), api.ErrArg)
	wantNoPut(t, of(far, wide(65537, "")), api.ErrArg)
	wantNoPut(t, many(4097, long(1<<20)), api.ErrArg)
	wantNoPut(t, of(far, cmd("PING")), api.ErrLong)
}

func TestP15_1_WhatIsHandedInStays(t *testing.T) {
	args := []string{"SET", "a", "5", "behind", "room"}
	cmds := [][]string{args[:3], {"PING"}, {"behind"}, nil}
	wantPut(t, api.Unit{Cmds: cmds[:2]}, put(of(cmd("SET", "a", "5"), cmd("PING"))))
	wantSame(t, api.Unit{Cmds: cmds[:2]}, api.Unit{Cmds: cmds[:3]}, false)
	if !slices.Equal(args, []string{"SET", "a", "5", "behind", "room"}) || len(cmds[0]) != 3 || !slices.Equal(cmds[1], cmd("PING")) || !slices.Equal(cmds[2], cmd("behind")) || cmds[3] != nil {
		t.Fatalf("the unit and its spare room are %q of %q", cmds, args)
	}
}

func TestP15_1_PutHangsOnNothingElse(t *testing.T) {
	l := odd()
	for i := len(l) - 1; i >= 0; i-- {
		wantNoPut(t, api.Unit{}, api.ErrArg)
		wantPut(t, l[i], put(l[i]))
		wantPut(t, clone(l[i]), put(l[i]))
	}
}

func TestP15_1_SameByHand(t *testing.T) {
	set := of(cmd("SET", "a", "5"), cmd("INCRBY", "a", "3"))
	for _, x := range []struct {
		a, b api.Unit
		want bool
	}{
		{api.Unit{}, api.Unit{}, true},
		{api.Unit{}, api.Unit{Cmds: [][]string{}}, true},
		{api.Unit{}, ping, false},
		{ping, ping, true},
		{ping, of(cmd("PING")), true},
		{ping, of(cmd("ping")), false},
		{ping, of(cmd("PING", "")), false},
		{ping, of(cmd("PINGS")), false},
		{ping, of(cmd("PIN")), false},
		{ping, of(cmd("PING"), cmd("PING")), false},
		{ping, of(cmd("PING"), nil), false},
		{of(nil), of([]string{}), true},
		{of(nil), api.Unit{}, false},
		{of(nil), of(nil, nil), false},
		{of(cmd("")), of(nil), false},
		{of(cmd("")), of(cmd("")), true},
		{of(cmd("a", "b")), of(cmd("ab")), false},
		{of(cmd("a", "b")), of(cmd("a"), cmd("b")), false},
		{of(cmd("a", "b")), of(cmd("b", "a")), false},
		{of(cmd("a"), cmd("b")), of(cmd("b"), cmd("a")), false},
		{of(cmd("a"), cmd("b", "c")), of(cmd("a", "b"), cmd("c")), false},
		{of(cmd("a\x00")), of(cmd("a")), false},
		{of(cmd("\xff")), of(cmd("\xfe")), false},
		{of(cmd("é")), of(cmd("e\u0301")), false},
		{set, of(cmd("SET", "a", "5"), cmd("INCRBY", "a", "3")), true},
		{set, of(cmd("SET", "a", "5"), cmd("INCRBY", "a", "4")), false},
		{set, of(cmd("SET", "b", "5"), cmd("INCRBY", "a", "3")), false},
		{set, of(cmd("SET", "a", "5")), false},
		{set, of(cmd("INCRBY", "a", "3")), false},
	} {
		wantSame(t, x.a, x.b, x.want)
	}
}

func TestP15_1_SameOfUnitsThatAreNone(t *testing.T) {
	wantSame(t, many(5000, "a"), many(5000, "a"), true)
	wantSame(t, many(5000, "a"), many(5001, "a"), false)
	wantSame(t, of(wide(70000, "a")), of(wide(70000, "a")), true)
	wantSame(t, of(wide(70000, "a")), of(wide(69999, "a")), false)
	wantSame(t, of(cmd(long(1<<21))), of(cmd(long(1<<21))), true)
	wantSame(t, of(cmd(long(1<<21))), of(cmd(long(1<<21)+"x")), false)
}

func TestP15_1_SameOfRolledUnits(t *testing.T) {
	next := rolled(3)
	var l []api.Unit
	for range 80 {
		l = append(l, thrown(next))
	}
	for i, a := range l {
		for j, b := range l {
			wantSame(t, a, b, put(a) == put(b))
			wantSame(t, clone(a), b, i == j)
		}
	}
}

// One argument that is another one, at each place.
func TestP15_1_EachArgumentCounts(t *testing.T) {
	next := rolled(4)
	for range 100 {
		u := thrown(next)
		for i, args := range u.Cmds {
			for j := range args {
				other := clone(u)
				other.Cmds[i][j] += "x"
				wantSame(t, u, other, false)
			}
			shorter := clone(u)
			shorter.Cmds[i] = args[:len(args)-1]
			wantSame(t, u, shorter, false)
		}
	}
}

func TestP15_2_ByHand(t *testing.T) {
	for s, u := range byHand() {
		wantTaken(t, s, u, len(s))
		wantTaken(t, s+s, u, len(s))
	}
}

func TestP15_2_Nothing(t *testing.T) {
	wantNone(t, "", api.ErrShort)
}

func TestP15_2_TheFirstByte(t *testing.T) {
	s := put(ping)
	for b := range 256 {
		if b == 0x55 {
			continue
		}
		first := string([]byte{byte(b)})
		wantNone(t, first, api.ErrForm)
		wantNone(t, first+s[1:], api.ErrForm)
		wantNone(t, first+s[1:4], api.ErrForm)
		wantNone(t, first+s, api.ErrForm)
		wantNone(t, first+"\xff\xff\xff\xff", api.ErrForm)
		wantNone(t, summed(first+s[1:19]), api.ErrForm)
	}
}

func TestP15_2_FewerThanFiveBytes(t *testing.T) {
	for _, behind := range []string{"", "\x00", "\xff", "\x00\x00", "\xff\xff", "\x00\x00\x00", "\xff\xff\xff", "\x0e\x00\x00"} {
		wantNone(t, "\x55"+behind, api.ErrShort)
	}
	wantNone(t, "\x55\x00\x00\x00\x00", api.ErrShort)
}

// lengthened is a text in which a length stands behind a unit's first byte.
func lengthened(size uint32, behind string) string {
	return string(binary.LittleEndian.AppendUint32([]byte{0x55}, size)) + behind
}

func TestP15_2_LengthsAboveTheGreatest(t *testing.T) {
	for _, size := range []uint32{1<<22 + 1, 1<<22 + 2, 1 << 23, 1 << 24, 1<<24 + 14, 1 << 30, math.MaxInt32 - 9, math.MaxInt32, 1 << 31, math.MaxUint32 - 9, math.MaxUint32 - 8, math.MaxUint32 - 4, math.MaxUint32} {
		wantNone(t, lengthened(size, ""), api.ErrLong)
		wantNone(t, lengthened(size, put(ping)), api.ErrLong)
		wantNone(t, lengthened(size, long(1<<23)), api.ErrLong)
	}
	for _, size := range []uint32{0, 1, 14, 255, 256, 1 << 16, 1<<22 - 1, 1 << 22} {
		wantNone(t, lengthened(size, ""), api.ErrShort)
	}
	wantNone(t, summed(lengthened(1<<22+1, request(long(1<<20), long(1<<20), long(1<<20), long(1<<20-47)))), api.ErrLong)
}

func TestP15_2_FewerBytesThanItsLengthAndNine(t *testing.T) {
	for _, size := range []uint32{0, 1, 2, 3, 4, 5, 14, 200, 300} {
		for n := range int(size) + 4 {
			wantNone(t, lengthened(size, long(n)), api.ErrShort)
		}
		wantNone(t, lengthened(size, long(int(size)+4)), api.ErrSum)
		wantNone(t, lengthened(size, long(int(size)+5)), api.ErrSum)
	}
	wantNone(t, lengthened(1<<22, long(1<<22+3)), api.ErrShort)
	wantNone(t, lengthened(1<<22, long(1<<22+4)), api.ErrSum)
}

func TestP15_2_OtherSums(t *testing.T) {
	for _, u := range []api.Unit{ping, of(cmd("")), of(cmd("SET", "a", "5"), cmd("DEL", "a"))} {
		s := put(u)
		ahead := s[:len(s)-4]
		n := crc32.ChecksumIEEE([]byte(ahead))
		for _, other := range []uint32{0, 1, n + 1, n - 1, ^n, n<<8 | n>>24, crc32.ChecksumIEEE([]byte(ahead[1:])), crc32.ChecksumIEEE([]byte(ahead[5:])), math.MaxUint32} {
			wantNone(t, string(binary.LittleEndian.AppendUint32([]byte(ahead), other)), api.ErrSum)
		}
		wantNone(t, string(binary.BigEndian.AppendUint32([]byte(ahead), n)), api.ErrSum)
		for i := range 4 {
			for b := range 256 {
				place := len(ahead) + i
				wantMeant(t, s[:place]+string([]byte{byte(b)})+s[place+1:])
			}
		}
	}
}

// A sum that is wrong is told ahead of commands' bytes that are of no unit.
func TestP15_2_TheSumAheadOfTheCommands(t *testing.T) {
	for _, bad := range noUnits() {
		s := []byte(framed(bad))
		s[len(s)-1] ^= 1
		wantNone(t, string(s), api.ErrSum)
	}
}

// noUnits are bytes that are no unit's commands'.
func noUnits() []string {
	one := request("PING")
	return []string{
		"",
		"PING\r\n", "PING\n", "SET a 5\r\n", "PING",
		"\n", "\r\n", "\n\n", " \r\n",
		"*0\r\n", "*0\r\n*0\r\n",
		"*", "*1", "*1\r", "*1\r\n", "*1\r\n$", "*1\r\n$4", "*1\r\n$4\r\n", "*1\r\n$4\r\nPIN", "*1\r\n$4\r\nPING", "*1\r\n$4\r\nPING\r",
		"*2\r\n$4\r\nPING\r\n", "*2\r\n$4\r\nPING\r\n$", "*2\r\n$4\r\nPING\r\n$0\r\n", "*2\r\n$4\r\nPING\r\n*1\r\n",
		"*1\n$4\nPING\n", "*1\r\n$4\nPING\r\n", "*1\n$4\r\nPING\r\n", "*1\r\n$4\r\nPING\n",
		"*1\r\n$4\r\nPINGS\r\n", "*1\r\n$3\r\nPING\r\n", "*1\r\n$5\r\nPING\r\n",
		"*01\r\n$4\r\nPING\r\n", "*1\r\n$04\r\nPING\r\n", "*+1\r\n$4\r\nPING\r\n", "*1\r\n$+4\r\nPING\r\n", "* 1\r\n$4\r\nPING\r\n",
		"*-1\r\n", "*-0\r\n", "*1\r\n$-1\r\n", "*1\r\n$-0\r\n\r\n", "*1\r\n$00\r\n\r\n", "*\r\n", "*1\r\n$\r\n\r\n", "*a\r\n",
		"*1\r\n:4\r\nPING\r\n", "*1\r\n4\r\nPING\r\n", "$4\r\nPING\r\n", "+PING\r\n", ":1\r\n",
		one + "\n", one + "\r\n", one + "*0\r\n", one + "PING\r\n", one + "*", one + "x", one + "\x00", one + "\x55", one + one[:13], one + one + "\r\n" + one,
		"\n" + one, "\r\n" + one, "*0\r\n" + one, "PING\r\n" + one, " " + one, "\x00" + one, "\x55" + one,
		one + "*0\r\n" + one, one + "\n" + one, one + "PING\n" + one,
		"*65537\r\n" + strings.Repeat("$0\r\n\r\n", 65537),
		"*1\r\n$1048577\r\n" + long(1048577) + "\r\n",
		"*18446744073709551617\r\n$4\r\nPING\r\n", "*1\r\n$18446744073709551620\r\nPING\r\n", "*4294967297\r\n$4\r\nPING\r\n", "*1\r\n$4294967300\r\nPING\r\n",
		strings.Repeat(one, 4097), strings.Repeat(request(""), 4097), strings.Repeat(request(""), 1<<22/10),
		strings.Repeat("\n", 1<<22), strings.Repeat("*0\r\n", 1<<20), strings.Repeat("a\n", 1<<21), strings.Repeat(one, 4096) + "\n", strings.Repeat(one, 4095) + "PING\r\n",
		long(1 << 22), strings.Repeat("*", 1<<22), strings.Repeat("\x00", 100), put(ping),
	}
}

func TestP15_2_SumsThatFitNoUnit(t *testing.T) {
	for _, bad := range noUnits() {
		if _, ok := meantCmds(bad); ok {
			t.Fatalf("%.60q is a unit's commands'", bad)
		}
		wantNone(t, framed(bad), api.ErrForm)
		wantNone(t, framed(bad)+put(ping), api.ErrForm)
	}
}

// wantNear holds commands' bytes with one thing about them turned against the document's words, each with a sum that fits.
func wantNear(t *testing.T, s string) {
	t.Helper()
	signs := []string{"", "*", "$", "0", "1", "2", "4", "9", "-", "+", " ", "\r", "\n", "\r\n", "\x00", "a", "\"", "\xff"}
	for at := range len(s) + 1 {
		wantMeant(t, framed(s[:at]))
		wantMeant(t, framed(s[at:]))
		for _, sign := range signs {
			wantMeant(t, framed(s[:at]+sign+s[at:]))
			for gone := 1; gone <= min(3, len(s)-at); gone++ {
				wantMeant(t, framed(s[:at]+sign+s[at+gone:]))
			}
		}
	}
}

func TestP15_2_CommandsBytesNearThoseOfAUnit(t *testing.T) {
	for _, u := range []api.Unit{ping, of(cmd("")), of(cmd("a", "")), of(cmd("SET", "a", "5"), cmd("DEL", "a")), of(wide(12, "b")), of(cmd(long(11))), of(cmd("\r\n"), cmd("*1\r\n$1\r\na\r\n"))} {
		wantNear(t, load(u))
	}
}

func TestP15_2_EachByteOfCommandsBytes(t *testing.T) {
	s := load(of(cmd("SET", "", "55"), cmd("a")))
	for at := range s {
		for b := range 256 {
			wantMeant(t, framed(s[:at]+string([]byte{byte(b)})+s[at+1:]))
		}
	}
}

func TestP15_2_RolledPiecesOfCommandsBytes(t *testing.T) {
	pieces := []string{"*1\r\n", "*2\r\n", "$0\r\n\r\n", "$1\r\na\r\n", "$2\r\n\r\n\r\n", "*0\r\n", "\r\n", "a\r\n", "\n", "*", "$", "1", "$4\r\nPING\r\n", "*1\r\n$4\r\nPING\r\n"}
	next := rolled(5)
	for range 30000 {
		s := ""
		for range next() % 7 {
			s += pieces[next()%uint64(len(pieces))]
		}
		wantMeant(t, framed(s))
	}
}

func TestP15_2_TheGreatestUnits(t *testing.T) {
	for _, u := range []api.Unit{
		many(4096, "PING"), many(4096, ""), many(4096, long(1000)),
		of(wide(65536, "")), of(wide(65536, "ab"), wide(65535, "c")),
		of(cmd(long(1048576))), of(cmd("a", long(1048576)), cmd(long(1048576))),
		full(1<<22 - 1), full(1 << 22),
	} {
		s := put(u)
		wantTaken(t, s, u, len(s))
		wantTaken(t, s+"\x55", u, len(s))
		wantNone(t, s[:len(s)-1], api.ErrShort)
	}
	wantNone(t, put(full(1<<22+1)), api.ErrLong)
}

func TestP15_2_WhateverStandsThere(t *testing.T) {
	next := rolled(6)
	for range 20000 {
		l := make([]byte, next()%40)
		for i := range l {
			l[i] = byte(next())
		}
		if len(l) > 0 && next()%4 > 0 {
			l[0] = 0x55
		}
		if len(l) > 4 && next()%4 > 0 {
			copy(l[1:], []byte{byte(next() % 40), 0, 0, 0})
		}
		wantMeant(t, string(l))
	}
}

func TestP15_2_AnswersShareNothing(t *testing.T) {
	s := put(of(cmd("SET", "a", "5"), cmd("DEL", "a"), cmd("PING")))
	first, _, _ := unit.Take(s)
	second, _, _ := unit.Take(s)
	for i, args := range first.Cmds {
		for j := range args {
			args[j] = "turned"
		}
		first.Cmds[i] = append(args, "more")
	}
	first.Cmds = append(first.Cmds[:0], nil, nil, nil)
	wantSame(t, second, of(cmd("SET", "a", "5"), cmd("DEL", "a"), cmd("PING")), true)
	wantTaken(t, s, second, len(s))
}

// What is put behind one command of an answer is not seen in another one.
func TestP15_2_CommandsShareNothing(t *testing.T) {
	u := of(cmd("a", "b", "c"), cmd("d", "e", "f"), cmd("g"))
	got, _, _ := unit.Take(put(u))
	for _, args := range got.Cmds {
		_ = append(args, "x", "y")
	}
	wantSame(t, got, u, true)
}

func TestP15_3_Nothing(t *testing.T) {
	wantAll(t, "", 0)
	wantAll(t, "\x55", 0)
	wantAll(t, "\x00", 0)
	wantAll(t, framed(""), 0)
	wantAll(t, framed("\n"), 0)
}

func TestP15_3_UnitByUnit(t *testing.T) {
	a, b, c := ping, of(cmd("SET", "a", "5"), cmd("INCRBY", "a", "3")), of(cmd(""))
	wantAll(t, row(a), 23, a)
	wantAll(t, row(a, a), 46, a, a)
	wantAll(t, row(a, b), 23+66, a, b)
	wantAll(t, row(b, a), 66+23, b, a)
	wantAll(t, row(a, b, c, a), 23+66+19+23, a, b, c, a)
	wantAll(t, row(a, b)+"x", 23+66, a, b)
	wantAll(t, row(a, b)+row(c)[:18], 23+66, a, b)
	wantAll(t, "x"+row(a, b), 0)
	wantAll(t, row(a)+"x"+row(b), 23, a)
}

// For each error that Take tells, units ahead of it and behind it.
func TestP15_3_AsLongAsThereIsNoError(t *testing.T) {
	bad := []string{"", "\x55", "\x54", "\x00", "\xff", "\n", "\x55\x0e\x00\x00", lengthened(1<<22+1, ""), lengthened(math.MaxUint32, ""), lengthened(1<<22, ""), lengthened(14, "x"), turned(put(ping), 100, 1), turned(put(ping), 180, 1), framed(""), framed("PING\r\n"), framed("*0\r\n"), framed(request("a") + "\n")}
	for _, s := range bad {
		wantAll(t, s, 0)
		wantAll(t, row(ping)+s, 23, ping)
		wantAll(t, row(ping, ping, ping)+s, 69, ping, ping, ping)
		if _, _, e := meantTake(s + row(ping)); e != api.OK {
			wantAll(t, row(ping)+s+row(ping), 23, ping)
		}
	}
}

func TestP15_3_VeryManyUnits(t *testing.T) {
	s := strings.Repeat(put(ping), 50000)
	l, size := unit.All(s)
	if len(l) != 50000 || size != len(s) || !slices.EqualFunc(l, slices.Repeat([]api.Unit{ping}, 50000), same) {
		t.Fatalf("%d units, of %d bytes", len(l), size)
	}
	big := full(1 << 22)
	wantAll(t, row(big, ping, big, many(4096, ""), big), 3*(1<<22+9)+23+40969, big, ping, big, many(4096, ""), big)
}

func TestP15_3_AnswersShareNothing(t *testing.T) {
	s := row(ping, ping, of(cmd("a"), cmd("b")))
	first, _ := unit.All(s)
	second, _ := unit.All(s)
	first[0].Cmds[0][0] = "turned"
	_ = append(first[0].Cmds, cmd("more"))
	_ = append(first[0].Cmds[0], "more")
	first[1] = api.Unit{}
	if !same(first[2], of(cmd("a"), cmd("b"))) || !slices.EqualFunc(second, []api.Unit{ping, ping, of(cmd("a"), cmd("b"))}, same) {
		t.Fatalf("%q, %q", first, second)
	}
	wantAll(t, s, len(s), second...)
}

func TestP15_4_WhatIsPutIsTaken(t *testing.T) {
	next := rolled(7)
	l := append(odd(), many(4096, "PING"), of(wide(65536, "")), of(cmd(long(1048576))), full(1<<22))
	for range 1000 {
		l = append(l, thrown(next))
	}
	behind := []string{"", "\x00", "\x55", "\n", "\r\n", "*1\r\n$4\r\nPING\r\n", "PING\r\n", "\xff\xff\xff\xff", put(ping), put(ping)[:10], string([]byte{0x55, 0xff, 0xff, 0xff, 0xff})}
	for _, u := range l {
		s, e := unit.Put(u)
		if e != api.OK {
			t.Fatalf("%s: %d", told(u), e)
		}
		for _, more := range behind {
			wantTaken(t, s+more, u, len(s))
			got, _, _ := unit.Take(s + more)
			wantSame(t, got, u, true)
		}
	}
}

func TestP15_4_WhateverByteStandsBehind(t *testing.T) {
	s := put(of(cmd("SET", "a", "5"), cmd("")))
	for a := range 256 {
		for b := range 256 {
			wantTaken(t, s+string([]byte{byte(a), byte(b)}), of(cmd("SET", "a", "5"), cmd("")), len(s))
		}
	}
}

// Of whatever is taken, of commands' bytes near a unit's, each with a sum that fits: put, it is what it was taken from.
func TestP15_4_WhatIsTakenIsPutSo(t *testing.T) {
	next := rolled(8)
	pieces := []string{"*1\r\n", "*2\r\n", "$0\r\n\r\n", "$1\r\na\r\n", "$4\r\nPING\r\n", "*1\r\n$4\r\nPING\r\n", "*0\r\n", "\n", "a\r\n"}
	taken := 0
	for range 40000 {
		load := ""
		for range next() % 6 {
			load += pieces[next()%uint64(len(pieces))]
		}
		s := framed(load) + "behind"
		u, size, e := unit.Take(s)
		if e != api.OK {
			continue
		}
		taken++
		if again, e := unit.Put(u); e != api.OK || again != s[:size] {
			t.Fatalf("%q is taken as %s, and put as %q, %d", s, told(u), again, e)
		}
	}
	if taken < 1000 {
		t.Fatalf("only %d were taken", taken)
	}
}

func TestP15_5_CutOffAtEveryPlace(t *testing.T) {
	next := rolled(9)
	l := []api.Unit{ping, of(cmd("")), many(40, "a"), of(wide(50, "")), of(cmd(put(ping), put(ping)))}
	for range 60 {
		l = append(l, thrown(next))
	}
	for _, u := range l {
		s := put(u)
		for i := range len(s) {
			wantNone(t, s[:i], api.ErrShort)
			wantAll(t, s[:i], 0)
			wantAll(t, row(ping)+s[:i], 23, ping)
		}
	}
}

// Cut off in the middle, with another unit behind, it is none either.
func TestP15_5_CutOffWithMoreBehind(t *testing.T) {
	for _, u := range []api.Unit{ping, of(cmd("SET", "a", "5"), cmd("INCRBY", "a", "3"))} {
		s := put(u)
		for i := 1; i < len(s); i++ {
			got, _, e := unit.Take(s[:i] + row(u, ping))
			if e == api.OK {
				t.Fatalf("%q, cut off behind %d bytes, is taken as %s", s, i, told(got))
			}
			wantMeant(t, s[:i]+row(u, ping))
		}
	}
}

func TestP15_5_EachBitBehindItsLength(t *testing.T) {
	next := rolled(10)
	l := append(odd(), many(50, "PING"))
	for range 100 {
		l = append(l, thrown(next))
	}
	for _, u := range l {
		s := put(u)
		for place := 5 * 8; place < len(s)*8; place++ {
			wantNone(t, turned(s, place, 1), api.ErrSum)
		}
	}
}

func TestP15_5_BurstsAtEveryPlaceBehindItsLength(t *testing.T) {
	next := rolled(11)
	for _, u := range []api.Unit{ping, of(cmd("")), of(cmd("SET", "a", "5"), cmd("INCRBY", "a", "3")), many(8, "\x00\xff")} {
		s := put(u)
		for place := 5 * 8; place < len(s)*8; place++ {
			for size := 1; size <= min(32, len(s)*8-place); size++ {
				for _, bits := range bursts(size, next) {
					wantNone(t, turned(s, place, bits), api.ErrSum)
				}
			}
		}
	}
}

func TestP15_5_BurstsInAGreatUnit(t *testing.T) {
	s := put(of(wide(3, long(1<<16))))
	next := rolled(12)
	for range 200 {
		place := 40 + int(next()%uint64(len(s)*8-40-32))
		wantNone(t, turned(s, place, uint32(next())|1), api.ErrSum)
	}
}

// Its first byte and its length are not promised, but no unit but another one of just that sum is told then.
func TestP15_5_TurnedAheadOfThat(t *testing.T) {
	next := rolled(13)
	for _, u := range []api.Unit{ping, of(cmd("SET", "a", "5"), cmd("INCRBY", "a", "3"))} {
		s := put(u) + row(ping, ping)
		for place := range 5 * 8 {
			for size := 1; size <= 32; size++ {
				for _, bits := range bursts(size, next) {
					wantMeant(t, turned(s, place, bits))
				}
			}
		}
	}
}

func TestP15_6_RolledRows(t *testing.T) {
	next := rolled(14)
	for range 300 {
		var l []api.Unit
		for range next() % 12 {
			l = append(l, thrown(next))
		}
		s := row(l...)
		wantAll(t, s, len(s), l...)
	}
}

// ends are where each unit of a row ends, 0 ahead of all.
func ends(l []api.Unit) []int {
	ends := []int{0}
	for _, u := range l {
		ends = append(ends, ends[len(ends)-1]+len(put(u)))
	}
	return ends
}

func TestP15_6_ARowCutOffAtEveryPlace(t *testing.T) {
	next := rolled(15)
	for range 30 {
		var l []api.Unit
		for range 1 + next()%6 {
			l = append(l, thrown(next))
		}
		s, at := row(l...), ends(l)
		for i := range len(s) + 1 {
			whole := 0
			for at[min(whole+1, len(l))] <= i && whole < len(l) {
				whole++
			}
			wantAll(t, s[:i], at[whole], l[:whole]...)
		}
	}
}

func TestP15_6_OneOfARowIsNone(t *testing.T) {
	next := rolled(16)
	for range 60 {
		var l []api.Unit
		for range 1 + next()%5 {
			l = append(l, thrown(next))
		}
		s, at := row(l...), ends(l)
		for i := range l {
			for range 30 {
				place := (at[i]+5)*8 + int(next()%uint64((at[i+1]-at[i]-5)*8))
				wantAll(t, turned(s, place, 1), at[i], l[:i]...)
			}
			for _, bad := range []string{"\x00", "\n", framed(""), framed("PING\r\n"), put(ping)[:22] + "\x00", lengthened(1<<22+1, "")} {
				wantAll(t, s[:at[i]]+bad+s[at[i]:], at[i], l[:i]...)
			}
		}
	}
}
