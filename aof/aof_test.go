package aof_test

import (
	"encoding/binary"
	"hash/crc32"
	"math"
	"math/big"
	"runtime"
	"slices"
	"strconv"
	"strings"
	"testing"

	"mews/aof"
	"mews/api"
	"mews/disk"
	"mews/unit"
)

// of is the unit of some commands.
func of(cmds ...[]string) api.Unit { return api.Unit{Cmds: cmds} }

// cmd is a command of some arguments.
func cmd(args ...string) []string { return args }

// ping is the unit of the document's example, and pinged its 23 bytes, written out.
var ping = of(cmd("PING"))

const pinged = "\x55\x0e\x00\x00\x00*1\r\n$4\r\nPING\r\n\xc1\x27\x4f\x12"

// long is a text of so many bytes.
func long(n int) string { return strings.Repeat("x", n) }

// wide is a command of so many arguments, all of them one text.
func wide(n int, arg string) []string {
	l := make([]string, n)
	for i := range l {
		l[i] = arg
	}
	return l
}

// bytesOf is a unit's bytes, as the document's words say it.
func bytesOf(u api.Unit) string {
	var b strings.Builder
	for _, args := range u.Cmds {
		b.WriteString("*" + strconv.Itoa(len(args)) + "\r\n")
		for _, arg := range args {
			b.WriteString("$" + strconv.Itoa(len(arg)) + "\r\n" + arg + "\r\n")
		}
	}
	s := binary.LittleEndian.AppendUint32([]byte{0x55}, uint32(b.Len()))
	s = append(s, b.String()...)
	return string(binary.LittleEndian.AppendUint32(s, crc32.ChecksumIEEE(s)))
}

// sized is a unit of so many bytes, 20 at least.
func sized(t *testing.T, n int) api.Unit {
	t.Helper()
	for size := range n {
		for _, u := range []api.Unit{of(cmd(long(size))), of(cmd(long(size), ""))} {
			if len(bytesOf(u)) == n {
				return u
			}
		}
	}
	t.Fatalf("there is no unit of %d bytes", n)
	return api.Unit{}
}

// thrownUnit is a unit of up to 3 commands of up to 3 arguments, of up to 6 rolled bytes each.
func thrownUnit(next func() uint64) api.Unit {
	u := api.Unit{}
	for range 1 + next()%3 {
		var args []string
		for range 1 + next()%3 {
			arg := make([]byte, next()%7)
			for i := range arg {
				arg[i] = byte(next())
			}
			args = append(args, string(arg))
		}
		u.Cmds = append(u.Cmds, args)
	}
	return u
}

// fault is a fault of the file log.
func fault(kind, short int) api.Fault { return api.Fault{Name: "log", Kind: kind, Short: short} }

// faulty is a disk to which some faults come behind those to come.
func faulty(d api.Disk, faults ...api.Fault) api.Disk {
	return api.Disk{Files: d.Files, Faults: slices.Concat(d.Faults, faults)}
}

// opened is an Always log of the file log, of a quota, to which nothing was put.
func opened(quota int) api.Log { return aof.Open("log", api.Always, quota, 0, 0) }

// added puts units to a log, which all are to be put.
func added(t *testing.T, l api.Log, units ...api.Unit) api.Log {
	t.Helper()
	for i, u := range units {
		var e api.Errno
		if l, e = aof.Add(l, u); e != api.OK {
			t.Fatalf("Add of unit %d: %d", i, e)
		}
	}
	return l
}

// wantFile holds the file log against bytes, of which some are safe.
func wantFile(t *testing.T, what string, d api.Disk, all string, safe int) {
	t.Helper()
	s, e := disk.Read(d, "log")
	if e != api.OK || s != all || disk.Safe(d, "log") != all[:safe] {
		t.Fatalf("%s: the file is %q (%d), of which %q is safe, want %q, %q", what, s, e, disk.Safe(d, "log"), all, all[:safe])
	}
}

// wantDisk holds a disk against another one: it is as that one is.
func wantDisk(t *testing.T, what string, got, want api.Disk) {
	t.Helper()
	if !slices.Equal(got.Files, want.Files) || !slices.Equal(got.Faults, want.Faults) {
		t.Fatalf("%s: %+v, want %+v", what, got, want)
	}
}

// numbers are such as are at the ends of their type, near 0, and some between.
var numbers = []int{math.MinInt, math.MinInt + 1, -1000, -1, 0, 1, 22, 23, 24, 1000, math.MaxInt - 1, math.MaxInt}

// times are such, too, and such as are Period, or nearly so, from one another.
var times = []int64{math.MinInt64, math.MinInt64 + 1, math.MinInt64 + 999, math.MinInt64 + 1000, math.MinInt64 + 1001, -1001, -1000, -999, -1, 0, 1, 998, 999, 1000, 1001, 1999, 2000, 2001, math.MaxInt64 - 1001, math.MaxInt64 - 1000, math.MaxInt64 - 999, math.MaxInt64 - 1, math.MaxInt64}

// others are policies that are none of the three.
var others = []int{math.MinInt, -3, -2, -1, 0, 4, 5, 256 + 2, 1<<32 + 3, math.MaxInt}

func TestP17_1_Open(t *testing.T) {
	for _, c := range []struct {
		policy, quota, size int
		now                 int64
		wantSize            int
	}{
		{api.Always, 30, 0, 0, 0},
		{api.Timely, 30, 7, 12, 7},
		{api.Never, 30, 30, -5, 30},
		{api.Always, 30, 31, 1, 31},
		{api.Always, 30, -1, 1, 0},
		{api.Always, -30, -40, 1, 0},
		{api.Always, -30, 5, 1, 5},
		{0, 0, 0, math.MinInt64, 0},
		{9, math.MinInt, math.MinInt, math.MaxInt64, 0},
		{-1, math.MaxInt, math.MaxInt, 0, math.MaxInt},
	} {
		want := api.Log{Name: "file", Policy: c.policy, Quota: c.quota, Size: c.wantSize, Last: c.now}
		wantLog(t, "Open", aof.Open("file", c.policy, c.quota, c.size, c.now), want)
	}
	for _, name := range []string{"", "log", "a\x00\xff", long(1000)} {
		wantLog(t, "Open", aof.Open(name, api.Never, 1, 2, 3), api.Log{Name: name, Policy: api.Never, Quota: 1, Size: 2, Last: 3})
	}
}

func TestP17_1_PeriodIsAThousand(t *testing.T) {
	if aof.Period != 1000 {
		t.Errorf("%d", aof.Period)
	}
}

func TestP17_1_Free(t *testing.T) {
	for _, c := range []struct {
		quota, size int
		pending     string
		want        int
	}{
		{30, 0, "", 30},
		{30, 10, "", 20},
		{30, 10, long(19), 1},
		{30, 10, long(20), 0},
		{30, 10, long(21), 0},
		{30, 10, long(1000), 0},
		{30, 29, long(2), 0},
		{30, 30, "", 0},
		{30, 31, "", 0},
		{30, 31, "x", 0},
		{0, 0, "", 0},
		{0, 0, "x", 0},
		{-1, 0, "", 0},
		{-1, 1, "x", 0},
		{math.MinInt, 0, "x", 0},
		{math.MinInt, math.MaxInt, "xx", 0},
		{-2, math.MaxInt, "xx", 0},
		{math.MaxInt, 0, "", math.MaxInt},
		{math.MaxInt, 1, "xx", math.MaxInt - 3},
		{math.MaxInt, math.MaxInt, "", 0},
		{math.MaxInt, math.MaxInt, "x", 0},
		{5, -10, "x", 14},
		{-5, -10, "", 5},
		{math.MaxInt, -1, "", math.MaxInt},
		{math.MaxInt, math.MinInt, "", math.MaxInt},
	} {
		if got := aof.Free(api.Log{Quota: c.quota, Size: c.size, Pending: c.pending}); got != c.want {
			t.Errorf("Free of %d, %d, %d pending: %d, want %d", c.quota, c.size, len(c.pending), got, c.want)
		}
	}
}

// Against numbers without a bound.
func TestP17_1_FreeOfAllNumbers(t *testing.T) {
	for _, quota := range numbers {
		for _, size := range numbers {
			for _, pending := range []int{0, 1, 23, 1000} {
				want := new(big.Int).Sub(big.NewInt(int64(quota)), big.NewInt(int64(max(size, 0))))
				want.Sub(want, big.NewInt(int64(pending)))
				if want.Sign() < 0 {
					want.SetInt64(0)
				}
				l := aof.Open("log", api.Always, quota, size, 0)
				l.Pending = long(pending)
				if got := aof.Free(l); int64(got) != want.Int64() {
					t.Errorf("Free of %d, %d, %d pending: %d, want %v", quota, size, pending, got, want)
				}
			}
		}
	}
}

func TestP17_1_Waits(t *testing.T) {
	d, l := api.Disk{}, opened(1000)
	want := func(what string, want bool) {
		t.Helper()
		if aof.Waits(l) != want {
			t.Fatalf("Waits behind %s: %t", what, !want)
		}
	}
	want("Open", false)
	l = added(t, l, ping)
	want("Add", true)
	d, l, _ = aof.Flush(d, l)
	want("Flush", true)
	d, l, _ = aof.Sync(faulty(d, fault(api.FaultSync, 0)), l, 1)
	want("a Sync that failed", true)
	d, l, _ = aof.Sync(d, l, 1)
	want("Sync", false)
	l = added(t, l, ping, ping)
	want("Adds", true)
	d, l, _ = aof.Sync(d, l, 1)
	want("another Sync", false)
	l, _ = aof.Add(l, api.Unit{})
	want("an Add that failed", false)
	_, l, _ = aof.Flush(d, l)
	want("a Flush of nothing", false)
}

func TestP17_2_TheExample(t *testing.T) {
	l, e := aof.Add(opened(30), ping)
	want := api.Log{Name: "log", Policy: api.Always, Quota: 30, Pending: pinged, Logged: 1, Ends: []int{23}}
	if e != api.OK || len(pinged) != 23 {
		t.Fatalf("%d", e)
	}
	wantLog(t, "Add", l, want)
	again, e := aof.Add(l, ping)
	if e != api.ErrFull {
		t.Errorf("the second one: %d", e)
	}
	wantLog(t, "the second one", again, want)
	if aof.Free(l) != 7 {
		t.Errorf("%d are free", aof.Free(l))
	}
}

func TestP17_2_UnitsStandBehindOneAnother(t *testing.T) {
	set, del := of(cmd("SET", "a", "5"), cmd("INCRBY", "a", "3")), of(cmd("DEL", ""))
	l := aof.Open("log", api.Never, 1000, 100, 7)
	want := api.Log{Name: "log", Policy: api.Never, Quota: 1000, Size: 100, Last: 7}
	for i, u := range []api.Unit{set, ping, del, ping} {
		l = added(t, l, u)
		want.Pending += bytesOf(u)
		want.Logged++
		want.Ends = append(want.Ends, 100+len(want.Pending))
		wantLog(t, "Add of unit "+strconv.Itoa(i), l, want)
	}
}

// wrongUnits are units of which layer 15 tells an error.
func wrongUnits() map[string]struct {
	u api.Unit
	e api.Errno
} {
	big := long(1 << 20)
	type wrong = struct {
		u api.Unit
		e api.Errno
	}
	return map[string]wrong{
		"no command":            {api.Unit{}, api.ErrArg},
		"too many commands":     {api.Unit{Cmds: slices.Repeat([][]string{{"PING"}}, 4097)}, api.ErrArg},
		"no argument":           {of(cmd("PING"), nil), api.ErrArg},
		"too many arguments":    {of(wide(65537, "")), api.ErrArg},
		"a too long argument":   {of(cmd("SET", "a", big+"x")), api.ErrArg},
		"too many bytes":        {of(cmd(big, big, big, big)), api.ErrLong},
		"many short arguments":  {of(wide(65536, long(64))), api.ErrLong},
		"many too long, none":   {of(cmd(big, big, big, big, big), cmd()), api.ErrArg},
		"a far too long one":    {of(wide(65536, big)), api.ErrLong},
		"very many of no bytes": {api.Unit{Cmds: make([][]string, 100000)}, api.ErrArg},
	}
}

func TestP17_2_Layer15sErrors(t *testing.T) {
	d, l, _ := aof.Flush(api.Disk{}, added(t, aof.Open("log", api.Timely, 1<<40, 3, 9), ping))
	l = added(t, l, ping)
	logs := map[string]api.Log{
		"with room": l, "of no quota": opened(0), "of a quota below 0": opened(-1),
		"above its quota": aof.Open("log", api.Always, 30, 31, 0), "full": added(t, opened(23), ping),
	}
	for what, wrong := range wrongUnits() {
		for of, l := range logs {
			got, e := aof.Add(l, wrong.u)
			if e != wrong.e {
				t.Errorf("%s, a log %s: %d, want %d", what, of, e, wrong.e)
			}
			wantLog(t, what, got, l)
		}
	}
	wantFile(t, "an Add that failed", d, pinged, 0)
}

func TestP17_2_AsManyBytesAsAreFree(t *testing.T) {
	for size := 20; size < 300; size++ {
		u := sized(t, size)
		for _, before := range []int{0, 1, 100, 1 << 40} {
			l := aof.Open("log", api.Always, before+size, before, 0)
			got := added(t, l, u)
			wantLog(t, "Add", got, api.Log{Name: "log", Policy: api.Always, Quota: before + size, Size: before, Pending: bytesOf(u), Logged: 1, Ends: []int{before + size}})
			if aof.Free(got) != 0 {
				t.Fatalf("%d are free behind a unit of as many bytes as were", aof.Free(got))
			}
			l.Quota--
			if got, e := aof.Add(l, u); e != api.ErrFull || !sameLog(got, l) {
				t.Fatalf("one more than are free: %d, %+v", e, got)
			}
		}
	}
}

func TestP17_2_WhatIsPendingCounts(t *testing.T) {
	for _, n := range []int{1, 2, 5, 50} {
		d, l := api.Disk{}, opened(n*23+20)
		for i := range n {
			l = added(t, l, ping)
			if i%3 == 1 {
				d, l, _ = aof.Flush(d, l)
			}
			if i%5 == 1 {
				d, l, _ = aof.Sync(d, l, 1)
			}
		}
		if got, e := aof.Add(l, sized(t, 21)); e != api.ErrFull || !sameLog(got, l) {
			t.Fatalf("%d, %+v", e, got)
		}
		got := added(t, l, sized(t, 20))
		if aof.Free(got) != 0 || got.Logged != n+1 || got.Ends[len(got.Ends)-1] != n*23+20 {
			t.Fatalf("%+v", got)
		}
	}
}

func TestP17_2_LogsWithoutRoom(t *testing.T) {
	for _, quota := range numbers {
		for _, size := range numbers {
			l := aof.Open("log", api.Always, quota, size, 0)
			got, e := aof.Add(l, ping)
			room := new(big.Int).Sub(big.NewInt(int64(quota)), big.NewInt(int64(max(size, 0))))
			if room.Cmp(big.NewInt(23)) < 0 {
				if e != api.ErrFull || !sameLog(got, l) {
					t.Errorf("a quota of %d, a size of %d: %d, %+v", quota, size, e, got)
				}
			} else if e != api.OK || !slices.Equal(got.Ends, []int{max(size, 0) + 23}) {
				t.Errorf("a quota of %d, a size of %d: %d, %+v", quota, size, e, got)
			}
		}
	}
}

// grown is a log with so many units that are not safe.
func grown(t *testing.T, n int) api.Log {
	l := opened(1 << 30)
	for range n {
		l = added(t, l, ping)
	}
	return l
}

// Two units are put to one log that was handed in: both logs tell their own.
func TestP17_2_PutToTwiceFromOne(t *testing.T) {
	one, two := of(cmd("SET", "a", "1")), of(cmd("DEL", "b"))
	for n := range 70 {
		l := grown(t, n)
		was := l
		was.Ends = slices.Clone(l.Ends)
		a := added(t, l, one)
		b := added(t, l, two, one)
		c := added(t, a, two)
		ends := func(l api.Log, want ...int) {
			t.Helper()
			for i, end := range want {
				if l.Ends[n+i] != n*23+end {
					t.Fatalf("behind %d units the ends are %v", n, l.Ends[n:])
				}
			}
			if len(l.Ends) != n+len(want) || l.Logged != n+len(want) {
				t.Fatalf("behind %d units: %+v", n, l)
			}
		}
		first, second := len(bytesOf(one)), len(bytesOf(two))
		ends(a, first)
		ends(b, second, second+first)
		ends(c, first, first+second)
		wantLog(t, "the log that was handed in", l, was)
		d, flushed, _ := aof.Flush(api.Disk{}, b)
		wantFile(t, "Flush", d, strings.Repeat(pinged, n)+bytesOf(two)+bytesOf(one), 0)
		ends(added(t, flushed, ping), second, second+first, second+first+23)
		ends(added(t, flushed, two), second, second+first, second+first+second)
		ends(b, second, second+first)
	}
}

func TestP17_3_FlushOfNothing(t *testing.T) {
	logs := []api.Log{opened(30), opened(-1), aof.Open("log", api.Timely, 5, 9, 3)}
	_, written, _ := aof.Flush(api.Disk{}, added(t, opened(30), ping))
	logs = append(logs, written)
	disks := []api.Disk{{}, begun("log", 9), faulty(begun("log", 0), fault(api.FaultWrite, 3), fault(api.FaultSync, 0)), faulty(begun("log", 9), fault(api.FaultWrite, 0))}
	for _, l := range logs {
		for _, d := range disks {
			got, after, e := aof.Flush(d, l)
			if e != api.OK {
				t.Fatalf("%d", e)
			}
			wantDisk(t, "Flush of nothing", got, d)
			wantLog(t, "Flush of nothing", after, l)
		}
	}
}

func TestP17_3_FlushWritesAllThatIsPending(t *testing.T) {
	set := of(cmd("SET", "a", "5"))
	d := begun("log", 9)
	l := added(t, aof.Open("log", api.Always, 1000, 9, 4), ping, set)
	all := pinged + bytesOf(set)
	d, l, e := aof.Flush(d, l)
	want := api.Log{Name: "log", Policy: api.Always, Quota: 1000, Size: 9 + len(all), Logged: 2, Ends: []int{32, 9 + len(all)}, Last: 4}
	if e != api.OK {
		t.Fatalf("%d", e)
	}
	wantLog(t, "Flush", l, want)
	wantFile(t, "Flush", d, "---------"+all, 9)
	wantOther(t, "Flush", d)
	d, l, e = aof.Flush(d, added(t, l, ping))
	want.Size, want.Logged, want.Ends = 9+len(all)+23, 3, append(want.Ends, 9+len(all)+23)
	if e != api.OK {
		t.Fatalf("%d", e)
	}
	wantLog(t, "another Flush", l, want)
	wantFile(t, "another Flush", d, "---------"+all+pinged, 9)
	if none, _, _ := aof.Flush(api.Disk{}, added(t, opened(30), ping)); len(none.Files) != 1 || none.Files[0].Name != "log" {
		t.Errorf("a file that was not there: %+v", none)
	}
}

// A fault of a write, of which each number of bytes is written, in the midst of a unit, at its end, with none, and with all.
func TestP17_3_FlushThatMeetsAFault(t *testing.T) {
	shorts := []int{math.MinInt, -1, 69, 70, math.MaxInt}
	for n := range 70 {
		shorts = append(shorts, n)
	}
	all := pinged + pinged + pinged
	for _, short := range shorts {
		n := min(max(short, 0), len(all))
		d := faulty(begun("log", 5), fault(api.FaultWrite, short), fault(api.FaultSync, 0), fault(api.FaultWrite, 1))
		was := added(t, aof.Open("log", api.Always, 1000, 5, 4), ping, ping, ping)
		d, l, e := aof.Flush(d, was)
		want := was
		want.Size, want.Pending = 5+n, all[n:]
		if e != api.ErrDisk {
			t.Fatalf("%d bytes: %d", short, e)
		}
		wantLog(t, "Flush", l, want)
		wantFile(t, "Flush", d, "-----"+all[:n], 5)
		if !slices.Equal(d.Faults, []api.Fault{fault(api.FaultSync, 0), fault(api.FaultWrite, 1)}) {
			t.Fatalf("faults to come: %v", d.Faults)
		}
		wantRest(t, d, l, all, n)
	}
}

// wantRest flushes what a fault left, behind another fault, and another unit behind it.
func wantRest(t *testing.T, d api.Disk, l api.Log, all string, n int) {
	t.Helper()
	last := l.Ends[len(l.Ends)-1]
	l = added(t, l, ping)
	if l.Ends[len(l.Ends)-1] != last+23 || aof.Free(l) != 1000-last-23 {
		t.Fatalf("a unit behind a fault: %+v", l)
	}
	d, l, e := aof.Flush(d, l)
	if e != api.ErrDisk || l.Size != 5+n+1 || l.Pending != (all + pinged)[n+1:] {
		t.Fatalf("another fault: %d, %+v", e, l)
	}
	wantFile(t, "another fault", d, "-----"+(all + pinged)[:n+1], 5)
	d, l, e = aof.Flush(d, l)
	if e != api.OK || l.Pending != "" || l.Size != last+23 || l.Durable != 0 || len(l.Ends) != 4 {
		t.Fatalf("a Flush behind faults: %d, %+v", e, l)
	}
	wantFile(t, "a Flush behind faults", d, "-----"+all+pinged, 5)
}

func TestP17_3_SyncOfNothing(t *testing.T) {
	unsafe := api.Disk{Files: []api.File{{Name: "log", Data: "123456789", Synced: 4}}, Faults: []api.Fault{fault(api.FaultWrite, 2), fault(api.FaultSync, 0)}}
	for _, d := range []api.Disk{{}, begun("log", 9), unsafe} {
		for _, l := range []api.Log{opened(30), aof.Open("log", api.Never, 30, 9, 77), {}} {
			got, after, e := aof.Sync(d, l, 100)
			if e != api.OK {
				t.Fatalf("%d", e)
			}
			wantDisk(t, "Sync of nothing", got, d)
			wantLog(t, "Sync of nothing", after, l)
		}
	}
	d, l, _ := aof.Sync(api.Disk{}, added(t, opened(30), ping), 5)
	d = faulty(d, fault(api.FaultSync, 0))
	got, after, e := aof.Sync(d, l, 100)
	if e != api.OK || after.Last != 5 {
		t.Fatalf("behind another one: %d, %+v", e, after)
	}
	wantDisk(t, "behind another one", got, d)
	wantLog(t, "behind another one", after, l)
}

func TestP17_3_SyncMakesAllUnitsSafe(t *testing.T) {
	for _, now := range times {
		d, l := begun("log", 9), aof.Open("log", api.Never, 1000, 9, 500)
		l = added(t, l, ping)
		d, l, _ = aof.Flush(d, l)
		l = added(t, l, ping, ping)
		d, l, e := aof.Sync(d, l, now)
		if e != api.OK {
			t.Fatalf("%d", e)
		}
		all := "---------" + strings.Repeat(pinged, 3)
		want := api.Log{Name: "log", Policy: api.Never, Quota: 1000, Size: len(all), Logged: 3, Durable: 3, Last: now}
		wantLog(t, "Sync", l, want)
		wantFile(t, "Sync", d, all, len(all))
		wantOther(t, "Sync", d)
		l = added(t, l, ping)
		want.Pending, want.Logged, want.Ends = pinged, 4, []int{len(all) + 23}
		wantLog(t, "Add behind a Sync", l, want)
		d, l, e = aof.Flush(d, l)
		if e != api.OK || l.Durable != 3 {
			t.Fatalf("%d, %+v", e, l)
		}
		wantFile(t, "Flush behind a Sync", d, all+pinged, len(all))
		d, l, e = aof.Sync(d, l, 3)
		if e != api.OK || l.Durable != 4 || l.Last != 3 || len(l.Ends) != 0 {
			t.Fatalf("of what was flushed ahead: %d, %+v", e, l)
		}
		wantFile(t, "of what was flushed ahead", d, all+pinged, len(all)+23)
	}
}

// A Sync whose Flush fails makes nothing safe, even if all was written.
func TestP17_3_SyncWhoseFlushFails(t *testing.T) {
	for _, short := range []int{-1, 0, 10, 23, 30, 46, 99} {
		n := min(max(short, 0), 46)
		d := faulty(begun("log", 5), fault(api.FaultSync, 0), fault(api.FaultWrite, short))
		was := added(t, aof.Open("log", api.Always, 1000, 5, 4), ping, ping)
		d, l, e := aof.Sync(d, was, 9)
		want := was
		want.Size, want.Pending = 5+n, (pinged + pinged)[n:]
		if e != api.ErrDisk {
			t.Fatalf("%d", e)
		}
		wantLog(t, "Sync", l, want)
		wantFile(t, "Sync", d, "-----"+(pinged + pinged)[:n], 5)
		if !slices.Equal(d.Faults, []api.Fault{fault(api.FaultSync, 0)}) {
			t.Fatalf("faults to come: %v", d.Faults)
		}
	}
}

func TestP17_3_SyncThatMeetsAFault(t *testing.T) {
	d := faulty(begun("log", 5), fault(api.FaultSync, 7), fault(api.FaultSync, 0), api.Fault{Name: "other", Kind: api.FaultSync})
	l := added(t, aof.Open("log", api.Always, 1000, 5, 4), ping, ping)
	want := l
	want.Size, want.Pending = 51, ""
	for i := range 2 {
		var e api.Errno
		if d, l, e = aof.Sync(d, l, 9); e != api.ErrDisk {
			t.Fatalf("%d", e)
		}
		wantLog(t, "Sync", l, want)
		wantFile(t, "Sync", d, "-----"+pinged+pinged, 5)
		if len(d.Faults) != 2-i {
			t.Fatalf("faults to come: %v", d.Faults)
		}
	}
	l = added(t, l, ping)
	d, l, e := aof.Sync(d, l, 9)
	if e != api.OK {
		t.Fatalf("the call again: %d", e)
	}
	wantLog(t, "the call again", l, api.Log{Name: "log", Policy: api.Always, Quota: 1000, Size: 74, Logged: 3, Durable: 3, Last: 9})
	wantFile(t, "the call again", d, "-----"+pinged+pinged+pinged, 74)
	if len(d.Faults) != 1 {
		t.Fatalf("faults to come: %v", d.Faults)
	}
}

// A disk to which the log's file never came.
func TestP17_3_SyncOfAFileThatIsNotThere(t *testing.T) {
	_, l, _ := aof.Flush(api.Disk{}, added(t, opened(30), ping))
	d, after, e := aof.Sync(begun("log", 0), l, 9)
	if e != api.ErrNone {
		t.Fatalf("%d", e)
	}
	wantLog(t, "Sync", after, l)
	wantDisk(t, "Sync", d, begun("log", 0))
}

// waiting is a log of a policy, that was opened at a time, with a unit that was written and one that is pending, and its disk.
func waiting(t *testing.T, policy int, last int64) (api.Disk, api.Log) {
	t.Helper()
	d, l, e := aof.Flush(begun("log", 5), added(t, aof.Open("log", policy, 1000, 5, last), ping))
	if e != api.OK {
		t.Fatalf("%d", e)
	}
	return d, added(t, l, ping)
}

// wantRound holds a Round of such a log: all is written, and, if that is asked for, safe.
func wantRound(t *testing.T, policy int, last, now int64, safe bool) {
	t.Helper()
	d, was := waiting(t, policy, last)
	d, l, e := aof.Round(d, was, now)
	if e != api.OK {
		t.Fatalf("policy %d, from %d to %d: %d", policy, last, now, e)
	}
	want, n := was, 5
	want.Size, want.Pending = 51, ""
	if safe {
		want.Durable, want.Ends, want.Last, n = 2, nil, now, 51
	}
	what := "policy " + strconv.Itoa(policy) + ", from " + strconv.FormatInt(last, 10) + " to " + strconv.FormatInt(now, 10)
	wantLog(t, what, l, want)
	wantFile(t, what, d, "-----"+pinged+pinged, n)
	wantOther(t, what, d)
}

func TestP17_4_Always(t *testing.T) {
	for _, policy := range append(slices.Clone(others), api.Always) {
		for _, now := range times {
			wantRound(t, policy, 0, now, true)
			wantRound(t, policy, now, 0, true)
		}
	}
}

func TestP17_4_Never(t *testing.T) {
	for _, last := range times {
		for _, now := range times {
			wantRound(t, api.Never, last, now, false)
		}
	}
}

func TestP17_4_Timely(t *testing.T) {
	for _, c := range []struct {
		last, now int64
		safe      bool
	}{
		{0, 0, false},
		{0, 1, false},
		{0, 999, false},
		{0, 1000, true},
		{0, 1001, true},
		{0, -1, false},
		{0, -1000, false},
		{0, -5000, false},
		{7, 1006, false},
		{7, 1007, true},
		{-1, 998, false},
		{-1, 999, true},
		{-500, 499, false},
		{-500, 500, true},
		{math.MinInt64, math.MaxInt64, true},
		{math.MaxInt64, math.MinInt64, false},
		{math.MinInt64, math.MinInt64, false},
		{math.MaxInt64, math.MaxInt64, false},
		{math.MinInt64, math.MinInt64 + 999, false},
		{math.MinInt64, math.MinInt64 + 1000, true},
		{math.MaxInt64 - 999, math.MaxInt64, false},
		{math.MaxInt64 - 1000, math.MaxInt64 - 1, false},
		{math.MaxInt64 - 1000, math.MaxInt64, true},
		{math.MaxInt64 - 999, math.MinInt64, false},
		{math.MaxInt64 - 1, math.MinInt64 + 998, false},
		{math.MinInt64, 0, true},
		{0, math.MinInt64, false},
		{1, math.MinInt64, false},
	} {
		wantRound(t, api.Timely, c.last, c.now, c.safe)
	}
}

// Against numbers without a bound.
func TestP17_4_TimelyAtAllTimes(t *testing.T) {
	for _, last := range times {
		for _, now := range times {
			passed := new(big.Int).Sub(big.NewInt(now), big.NewInt(last))
			wantRound(t, api.Timely, last, now, passed.Cmp(big.NewInt(1000)) >= 0)
		}
	}
}

// The time counts from the last Sync on, by whichever call; a Round in which nothing waited is none.
func TestP17_4_TimelyCountsFromTheLastSync(t *testing.T) {
	d, l := api.Disk{}, aof.Open("log", api.Timely, 1000, 0, 100)
	round := func(now int64, durable int, last int64) {
		t.Helper()
		var e api.Errno
		d, l, e = aof.Round(d, l, now)
		if e != api.OK || l.Durable != durable || l.Last != last || l.Pending != "" {
			t.Fatalf("a Round at %d: %d, %+v", now, e, l)
		}
	}
	round(1100, 0, 100)
	l = added(t, l, ping)
	round(1099, 0, 100)
	round(1100, 1, 1100)
	round(9999, 1, 1100)
	l = added(t, l, ping)
	round(2099, 1, 1100)
	d, l, _ = aof.Sync(d, l, 2100)
	l = added(t, l, ping)
	round(3099, 2, 2100)
	round(50, 2, 2100)
	round(3100, 3, 3100)
	d, l, _ = aof.Sync(d, added(t, l, ping), 40)
	l = added(t, l, ping)
	round(1039, 4, 40)
	round(1040, 5, 1040)
	if s, _ := disk.Read(d, "log"); s != strings.Repeat(pinged, 5) || disk.Safe(d, "log") != s {
		t.Errorf("the file is %q", s)
	}
}

func TestP17_4_RoundsThatMeetAFaultOfAWrite(t *testing.T) {
	for _, policy := range append(slices.Clone(others), api.Always, api.Timely, api.Never) {
		for _, now := range []int64{0, 999, 1000, 5000} {
			for _, short := range []int{0, 10, 23} {
				d, was := waiting(t, policy, 0)
				d, l, e := aof.Round(faulty(d, fault(api.FaultWrite, short), fault(api.FaultSync, 0)), was, now)
				if e != api.ErrDisk {
					t.Fatalf("policy %d at %d: %d", policy, now, e)
				}
				want := was
				want.Size, want.Pending = 28+short, pinged[short:]
				wantLog(t, "Round", l, want)
				wantFile(t, "Round", d, "-----"+pinged+pinged[:short], 5)
				if !slices.Equal(d.Faults, []api.Fault{fault(api.FaultSync, 0)}) {
					t.Fatalf("policy %d at %d: faults to come %v", policy, now, d.Faults)
				}
			}
		}
	}
}

func TestP17_4_RoundsThatMeetAFaultOfASync(t *testing.T) {
	for _, policy := range append(slices.Clone(others), api.Always, api.Timely, api.Never) {
		for _, now := range []int64{999, 1000} {
			d, was := waiting(t, policy, 0)
			d, l, e := aof.Round(faulty(d, fault(api.FaultSync, 0)), was, now)
			wantE, left := api.ErrDisk, 0
			if policy == api.Never || policy == api.Timely && now == 999 {
				wantE, left = api.OK, 1
			}
			if e != wantE || len(d.Faults) != left {
				t.Fatalf("policy %d at %d: %d, faults to come %v", policy, now, e, d.Faults)
			}
			want := was
			want.Size, want.Pending = 51, ""
			wantLog(t, "Round", l, want)
			wantFile(t, "Round", d, "-----"+pinged+pinged, 5)
		}
	}
}

func TestP17_4_RoundsOfNothing(t *testing.T) {
	unsafe := api.Disk{Files: []api.File{{Name: "log", Data: "123456789", Synced: 4}}, Faults: []api.Fault{fault(api.FaultWrite, 2), fault(api.FaultSync, 0)}}
	for _, policy := range append(slices.Clone(others), api.Always, api.Timely, api.Never) {
		for _, now := range times {
			l := aof.Open("log", policy, 30, 9, 77)
			d, after, e := aof.Round(unsafe, l, now)
			if e != api.OK {
				t.Fatalf("%d", e)
			}
			wantDisk(t, "Round of nothing", d, unsafe)
			wantLog(t, "Round of nothing", after, l)
		}
	}
}

// wantLeft holds what each crash leaves of a log's file, from where it was opened: units that were put first, all durable ones among them.
func wantLeft(t *testing.T, d api.Disk, l api.Log, size int, put []api.Unit) {
	t.Helper()
	all, _ := disk.Read(d, "log")
	for keep := -1; keep <= len(all)-len(disk.Safe(d, "log"))+1; keep++ {
		left, _ := disk.Read(disk.Crash(d, api.Keep{Name: "log", Bytes: keep}), "log")
		units, n := unit.All(left[min(size, len(left)):])
		if len(units) < l.Durable || len(units) > len(put) {
			t.Fatalf("%d units are left of %d, of which %d are durable", len(units), len(put), l.Durable)
		}
		for i, u := range units {
			if !unit.Same(u, put[i]) {
				t.Fatalf("unit %d is %v, not %v", i, u, put[i])
			}
		}
		if rest := left[min(size, len(left)):][n:]; len(units) == len(put) && rest != "" || len(units) < len(put) && !strings.HasPrefix(bytesOf(put[len(units)]), rest) {
			t.Fatalf("behind %d units stands %q", len(units), rest)
		}
	}
}

func TestP17_5_ACrashLeavesUnits(t *testing.T) {
	next := rolled(175)
	faults, cuts := 0, 0
	for range 300 {
		size, policy := int(next()%2)*7, int(next()%4)
		d := begun("log", size)
		l := aof.Open("log", policy, 600, size, 0)
		m := modelOf(d, "log", policy, 600, size, 0)
		var put []api.Unit
		for range 25 {
			logged, u := l.Logged, thrownUnit(next)
			if next()%3 == 0 {
				l, _ = aof.Add(l, u)
				m.add(bytesOf(u))
				if l.Logged > logged {
					put = append(put, u)
				}
				continue
			}
			var e api.Errno
			if next()%3 == 0 {
				f := fault(int(next()%2)+1, int(next()%60))
				d, m.faults = faulty(d, f), append(m.faults, f)
			}
			now := int64(next() % 5000)
			d, l, e = aof.Round(d, l, now)
			if want := m.round(now); e != want {
				t.Fatalf("%d, want %d", e, want)
			}
			if e != api.OK {
				faults++
			}
			if l.Pending != "" && !slices.Contains(l.Ends, l.Size) {
				cuts++
			}
			wantLeft(t, d, l, size, put)
		}
	}
	if faults < 300 || cuts < 100 {
		t.Errorf("thrown ones are too much alike: %d faults, %d of them in the midst of a unit", faults, cuts)
	}
}

// Behind a fault of each kind, a crash with each number of bytes kept.
func TestP17_5_CrashesBehindEachFault(t *testing.T) {
	put := []api.Unit{ping, of(cmd("SET", "a", "5"), cmd("DEL", "b")), ping}
	for short := -1; short <= 90; short++ {
		for _, kind := range []int{api.FaultWrite, api.FaultSync, api.FaultRename} {
			l := added(t, opened(1000), put[0])
			d, l, e := aof.Round(api.Disk{}, l, 0)
			if e != api.OK || l.Durable != 1 {
				t.Fatalf("%d, %+v", e, l)
			}
			l = added(t, l, put[1:]...)
			d, l, e = aof.Round(faulty(d, fault(kind, short)), l, 0)
			if (e == api.OK) != (kind == api.FaultRename) {
				t.Fatalf("a fault of kind %d: %d", kind, e)
			}
			wantLeft(t, d, l, 0, put)
			if d, l, e = aof.Round(d, l, 0); e != api.OK || l.Durable != 3 {
				t.Fatalf("a Round behind a fault: %d, %+v", e, l)
			}
			wantLeft(t, d, l, 0, put)
		}
	}
}

// Whatever the quota, the size that a log was opened with, and the faults.
func TestP17_6_NeverMoreThanTheQuota(t *testing.T) {
	next := rolled(176)
	full := 0
	for range 1500 {
		size := int(next() % 50)
		quota := int(next()%300) - 20
		d := begun("log", size)
		l := aof.Open("log", int(next()%4), quota, size, 0)
		m := modelOf(d, "log", l.Policy, quota, size, 0)
		for range 25 {
			var e api.Errno
			d, l, _, e = turn(t, next, d, l, m)
			s, _ := disk.Read(d, "log")
			if n := len(s) + len(l.Pending); n > max(quota, size) {
				t.Fatalf("%d bytes, of a quota of %d and %d bytes at first", n, quota, size)
			}
			if e == api.ErrFull {
				full++
			}
			if len(s) != l.Size {
				t.Fatalf("the file has %d bytes, the log tells %d", len(s), l.Size)
			}
		}
	}
	if full < 1000 {
		t.Errorf("thrown ones are too short: %d", full)
	}
}

func TestP17_7_UnderAlwaysNoUnitWaits(t *testing.T) {
	next := rolled(177)
	rounds, failed := 0, 0
	for range 1000 {
		policy := api.Always
		if next()%2 == 0 {
			policy = others[next()%uint64(len(others))]
		}
		d, l := api.Disk{}, aof.Open("log", policy, 2000, 0, 0)
		m := modelOf(d, "log", policy, 2000, 0, 0)
		for range 20 {
			var what string
			var e api.Errno
			d, l, what, e = turn(t, next, d, l, m)
			if what != "Round" {
				continue
			}
			if e != api.OK {
				failed++
				continue
			}
			rounds++
			s, _ := disk.Read(d, "log")
			if aof.Waits(l) || l.Durable != l.Logged || l.Pending != "" || len(l.Ends) != 0 || disk.Safe(d, "log") != m.all() || s != m.all() {
				t.Fatalf("a unit waits behind a Round: %+v, %+v", l, d)
			}
		}
	}
	if rounds < 1000 || failed < 300 {
		t.Errorf("thrown ones are too much alike: %d, %d", rounds, failed)
	}
}

// spared is a list with spare room behind it, in which something stands.
func spared[T any](l []T, behind T) []T {
	l = append(slices.Clone(l), behind, behind, behind)
	return l[:len(l)-3]
}

// answer is what a call answers of a disk and a log.
type answer struct {
	d api.Disk
	l api.Log
}

// everyCall does each call to a disk and a log, and tells what comes of it.
func everyCall(d api.Disk, l api.Log, now int64) []answer {
	none := func(l api.Log, _ api.Errno) answer { return answer{l: l} }
	both := func(d api.Disk, l api.Log, _ api.Errno) answer { return answer{d, l} }
	aof.Free(l)
	aof.Waits(l)
	return []answer{
		none(aof.Add(l, ping)), none(aof.Add(l, api.Unit{})), none(aof.Add(l, of(cmd(long(1000))))),
		both(aof.Flush(d, l)), both(aof.Sync(d, l, now)), both(aof.Round(d, l, now)),
	}
}

// scratched turns all that an answer has, with its spare room, as whoever is told it may.
func scratched(x answer) {
	ends, files, faults := x.l.Ends[:cap(x.l.Ends)], x.d.Files[:cap(x.d.Files)], x.d.Faults[:cap(x.d.Faults)]
	for i := range ends {
		ends[i] = -77
	}
	for i := range files {
		files[i] = api.File{Name: "scratched"}
	}
	for i := range faults {
		faults[i] = api.Fault{Name: "scratched"}
	}
}

func TestP17_2_3_4_WhatIsHandedInStays(t *testing.T) {
	next := rolled(7)
	for range 2000 {
		d := begun("log", 5)
		l := aof.Open("log", int(next()%4), 400, 5, 0)
		m := modelOf(d, "log", l.Policy, 400, 5, 0)
		for range next() % 20 {
			d, l, _, _ = turn(t, next, d, l, m)
		}
		l.Ends = spared(l.Ends, 999)
		d.Files, d.Faults = spared(d.Files, api.File{Name: "behind", Data: "xyz"}), spared(d.Faults, api.Fault{Name: "behind"})
		ends, files, faults := slices.Clone(l.Ends[:cap(l.Ends)]), slices.Clone(d.Files[:cap(d.Files)]), slices.Clone(d.Faults[:cap(d.Faults)])
		for _, got := range everyCall(d, l, thrownTime(next, l.Last)) {
			scratched(got)
		}
		wantModel(t, "what was handed in", d, l, m)
		if !slices.Equal(ends, l.Ends[:cap(l.Ends)]) || !slices.Equal(files, d.Files[:cap(d.Files)]) || !slices.Equal(faults, d.Faults[:cap(d.Faults)]) {
			t.Fatalf("%v, %v, %v became %v, %v, %v", ends, files, faults, l.Ends[:cap(l.Ends)], d.Files[:cap(d.Files)], d.Faults[:cap(d.Faults)])
		}
	}
}

// A unit that was put is the log's, whatever becomes of the one that was handed in.
func TestP17_2_UnitsThatWereHandedInStay(t *testing.T) {
	args := spared([]string{"SET", "a", "5"}, "behind")
	cmds := spared([][]string{args, {"PING"}}, []string{"behind"})
	u := api.Unit{Cmds: cmds}
	want := bytesOf(u)
	l := added(t, opened(1000), u)
	if bytesOf(u) != want || !slices.Equal(args[:cap(args)][3:6], []string{"behind", "behind", "behind"}) || cmds[:3][2][0] != "behind" {
		t.Fatalf("the unit that was handed in: %v", cmds[:cap(cmds)])
	}
	args[0], cmds[1] = "DEL", nil
	if l.Pending != want {
		t.Errorf("%q is pending", l.Pending)
	}
}

// One call twice answers twice the same, whatever came between.
func TestP17_2_3_4_AnswersHangOnNothingElse(t *testing.T) {
	next := rolled(9)
	for range 500 {
		d := begun("log", 0)
		l := aof.Open("log", int(next()%4), 400, 0, 0)
		m := modelOf(d, "log", l.Policy, 400, 0, 0)
		for range next() % 20 {
			d, l, _, _ = turn(t, next, d, l, m)
		}
		now := thrownTime(next, l.Last)
		first := everyCall(d, l, now)
		second := everyCall(d, api.Log{Name: l.Name, Policy: l.Policy, Quota: l.Quota, Size: l.Size, Pending: strings.Clone(l.Pending), Logged: l.Logged, Durable: l.Durable, Ends: spared(l.Ends, 5), Last: l.Last}, now)
		for i := range first {
			wantLog(t, "the call again", second[i].l, first[i].l)
			wantDisk(t, "the call again", second[i].d, first[i].d)
		}
	}
}

func TestP17_1_LogsThatNobodyMade(t *testing.T) {
	for _, e := range []struct {
		l    api.Log
		u    api.Unit
		want api.Errno
	}{{api.Log{}, ping, api.ErrFull}, {api.Log{}, api.Unit{}, api.ErrArg}} {
		if got, errno := aof.Add(e.l, e.u); errno != e.want || !sameLog(got, e.l) {
			t.Errorf("%+v, %d", got, errno)
		}
	}
	for _, x := range everyCall(api.Disk{}, api.Log{}, math.MaxInt64)[3:] {
		wantLog(t, "of nothing", x.l, api.Log{})
		wantDisk(t, "of nothing", x.d, api.Disk{})
	}
	for _, quota := range numbers {
		for _, size := range numbers {
			for _, logged := range numbers {
				for _, policy := range []int{-1, 0, 1, 2, 3, 4} {
					l := api.Log{Name: "log", Policy: policy, Quota: quota, Size: size, Pending: "xy", Logged: logged, Durable: quota, Ends: []int{size, logged}, Last: int64(size)}
					if n := aof.Free(l); n < 0 || quota <= size && n > 0 {
						t.Fatalf("Free of %+v: %d", l, n)
					}
					everyCall(api.Disk{Files: make([]api.File, 2), Faults: make([]api.Fault, 2)}, l, int64(quota))
					everyCall(faulty(begun("log", 3), fault(api.FaultWrite, logged), fault(api.FaultSync, logged)), l, int64(logged))
				}
			}
		}
	}
}

// Other files' faults, and faults of other kinds, are not met; of files of the log's name the first one counts.
func TestP17_3_ItsFileAlone(t *testing.T) {
	d := api.Disk{Files: []api.File{{Name: "log2", Data: "2"}, {Name: "log", Data: "1", Synced: 1}, {Name: "log", Data: "not"}}, Faults: []api.Fault{{Name: "log2", Kind: api.FaultWrite}, {Name: "", Kind: api.FaultSync}, {Name: "log", Kind: api.FaultRename}, {Name: "log", Kind: 7}}}
	l := added(t, aof.Open("log", api.Always, 1000, 1, 0), ping)
	got, l, e := aof.Round(d, l, 1)
	if e != api.OK || l.Durable != 1 || !slices.Equal(got.Faults, d.Faults) {
		t.Fatalf("%d, %+v, %+v", e, l, got)
	}
	want := []api.File{{Name: "log2", Data: "2"}, {Name: "log", Data: "1" + pinged, Synced: 24}, {Name: "log", Data: "not"}}
	if !slices.Equal(got.Files, want) {
		t.Errorf("%+v", got.Files)
	}
	d, l, e = aof.Sync(api.Disk{}, added(t, aof.Open("", api.Never, 1000, 0, 0), ping), 1)
	if s, _ := disk.Read(d, ""); e != api.OK || s != pinged || l.Durable != 1 {
		t.Errorf("a log without a name: %d, %+v, %+v", e, l, d)
	}
}

func TestP17_2_3_VeryManyAndGreatUnits(t *testing.T) {
	const n = 10000
	l := opened(n * 23)
	for range n {
		l = added(t, l, ping)
	}
	if _, e := aof.Add(l, ping); e != api.ErrFull || l.Logged != n || l.Ends[n-1] != n*23 || l.Ends[n/2] != (n/2+1)*23 {
		t.Fatalf("%d, %d are logged", e, l.Logged)
	}
	d, l, e := aof.Sync(api.Disk{}, l, 1)
	if e != api.OK || l.Durable != n || l.Size != n*23 || disk.Safe(d, "log") != strings.Repeat(pinged, n) {
		t.Fatalf("%d, %d are durable", e, l.Durable)
	}
	big := of(cmd(long(1<<20), long(1<<20), long(1<<20), long(1<<20-60)))
	l = added(t, opened(1<<23), big)
	d, l, e = aof.Round(api.Disk{}, l, 1)
	if units, _ := unit.All(disk.Safe(d, "log")); e != api.OK || l.Durable != 1 || len(units) != 1 || !unit.Same(units[0], big) {
		t.Errorf("a great unit: %d", e)
	}
}

// held is how much memory is held on to.
func held() int64 {
	var m runtime.MemStats
	runtime.GC()
	runtime.GC()
	runtime.ReadMemStats(&m)
	return int64(m.HeapAlloc)
}

// What was written is the disk's: the log holds on to nothing of it.
func TestP17_3_WhatWasWrittenIsNotKept(t *testing.T) {
	for _, f := range [][]api.Fault{nil, {fault(api.FaultWrite, 20<<20)}, {fault(api.FaultWrite, math.MaxInt)}} {
		before := held()
		l := opened(1 << 30)
		for range 20 {
			l = added(t, l, of(cmd(long(1<<20))))
		}
		l = added(t, l, ping)
		_, l, _ = aof.Flush(api.Disk{Faults: f}, l)
		if more := held() - before; more > 4<<20 {
			t.Errorf("of %d pending bytes %d are held", len(l.Pending), more)
		}
		if len(l.Pending) > 1000 || l.Logged != 21 {
			t.Errorf("%d bytes are pending", len(l.Pending))
		}
		runtime.KeepAlive(l)
	}
}
