package aof_test

import (
	"math"
	"reflect"
	"slices"
	"strings"
	"testing"

	"mews/aof"
	"mews/api"
	"mews/disk"
)

// model is a log, and its file, as the document's words say it: every unit's bytes that were put, how many of all these bytes were written, how many units are durable.
type model struct {
	name           string
	policy, quota  int
	opened         int
	put            []string
	written        int
	durable        int
	last           int64
	there          bool
	file           string
	safe           int
	faults         []api.Fault
	synced, failed int
}

// modelOf is the model of a log that was just opened, and of its file on a disk.
func modelOf(d api.Disk, name string, policy, quota, size int, now int64) *model {
	m := &model{name: name, policy: policy, quota: quota, opened: size, last: now}
	if size < 0 {
		m.opened = 0
	}
	s, e := disk.Read(d, name)
	m.there, m.file, m.safe = e == api.OK, s, len(disk.Safe(d, name))
	m.faults = append(m.faults, d.Faults...)
	return m
}

// all is all that was put.
func (m *model) all() string { return strings.Join(m.put, "") }

// pending is what was not written.
func (m *model) pending() string { return m.all()[m.written:] }

// free tells how many bytes there is room for.
func (m *model) free() int {
	if m.quota < 0 || m.opened > m.quota {
		return 0
	}
	return m.quota - m.opened - len(m.all())
}

// waits tells whether a unit is not safe.
func (m *model) waits() bool { return m.durable < len(m.put) }

// log is the log as it is to be told.
func (m *model) log() api.Log {
	l := api.Log{Name: m.name, Policy: m.policy, Quota: m.quota, Size: m.opened + m.written, Pending: m.pending(), Logged: len(m.put), Durable: m.durable, Last: m.last}
	end := m.opened
	for i, s := range m.put {
		end += len(s)
		if i >= m.durable {
			l.Ends = append(l.Ends, end)
		}
	}
	return l
}

// meets tells the fault that a call meets, which comes no more then.
func (m *model) meets(kind int) (api.Fault, bool) {
	for i, f := range m.faults {
		if f.Kind == kind && f.Name == m.name {
			m.faults = append(append([]api.Fault{}, m.faults[:i]...), m.faults[i+1:]...)
			m.failed++
			return f, true
		}
	}
	return api.Fault{}, false
}

// add puts a unit of some bytes.
func (m *model) add(s string) api.Errno {
	if len(s) > m.free() {
		return api.ErrFull
	}
	m.put = append(m.put, s)
	return api.OK
}

// flush writes byte by byte.
func (m *model) flush() api.Errno {
	left := len(m.pending())
	if left == 0 {
		return api.OK
	}
	fault, met := m.meets(api.FaultWrite)
	m.there = true
	for i := 0; i < left && !(met && i >= fault.Short); i++ {
		m.file += m.all()[m.written : m.written+1]
		m.written++
	}
	if met {
		return api.ErrDisk
	}
	return api.OK
}

// sync makes all that was put safe.
func (m *model) sync(now int64) api.Errno {
	if e := m.flush(); e != api.OK {
		return e
	}
	if !m.waits() {
		return api.OK
	}
	if !m.there {
		return api.ErrNone
	}
	if _, met := m.meets(api.FaultSync); met {
		return api.ErrDisk
	}
	m.safe, m.durable, m.last = len(m.file), len(m.put), now
	m.synced++
	return api.OK
}

// round does what the policy asks for.
func (m *model) round(now int64) api.Errno {
	if m.policy == api.Never {
		return m.flush()
	}
	if m.policy != api.Timely {
		return m.sync(now)
	}
	if e := m.flush(); e != api.OK {
		return e
	}
	if behind(m.last, now, 1000) {
		return m.sync(now)
	}
	return api.OK
}

// behind tells whether now is so many or more behind last, whatever numbers these are.
func behind(last, now, so int64) bool {
	if now < last {
		return false
	}
	return uint64(now)-uint64(last) >= uint64(so)
}

// sameLog tells whether two logs are.
func sameLog(a, b api.Log) bool {
	ends := slices.Equal(a.Ends, b.Ends)
	a.Ends, b.Ends = nil, nil
	return ends && reflect.DeepEqual(a, b)
}

// wantLog holds a log against another one.
func wantLog(t *testing.T, what string, got, want api.Log) {
	t.Helper()
	if !sameLog(got, want) {
		t.Fatalf("%s: %+v, want %+v", what, got, want)
	}
}

// wantModel holds a log, and a disk, against the model.
func wantModel(t *testing.T, what string, d api.Disk, l api.Log, m *model) {
	t.Helper()
	wantLog(t, what, l, m.log())
	if got := aof.Free(l); got != m.free() {
		t.Fatalf("%s: %d are free, want %d", what, got, m.free())
	}
	if got := aof.Waits(l); got != m.waits() {
		t.Fatalf("%s: Waits: %t", what, got)
	}
	s, e := disk.Read(d, m.name)
	if (e == api.OK) != m.there || s != m.file || len(disk.Safe(d, m.name)) != m.safe {
		t.Fatalf("%s: the file is %q (%d), of which %q is safe, want %q, of which %d are", what, s, e, disk.Safe(d, m.name), m.file, m.safe)
	}
	if len(d.Faults)+len(m.faults) > 0 && !slices.Equal(d.Faults, m.faults) {
		t.Fatalf("%s: faults to come %v, want %v", what, d.Faults, m.faults)
	}
}

// rolled gives numbers that look as if they were thrown; of one seed always the same ones.
func rolled(seed uint64) func() uint64 {
	return func() uint64 {
		seed = seed*6364136223846793005 + 1442695040888963407
		return (seed ^ seed>>29) >> 11
	}
}

// thrownTime is a time, often one near another one and Period, now and then one at the ends of its type.
func thrownTime(next func() uint64, last int64) int64 {
	switch next() % 8 {
	case 0:
		l := []int64{math.MinInt64, math.MinInt64 + 999, math.MinInt64 + 1000, -1000, 0, 1000, math.MaxInt64 - 1000, math.MaxInt64 - 999, math.MaxInt64}
		return l[next()%uint64(len(l))]
	case 1, 2, 3:
		// A sum modulo 2^64: any time will do.
		return last + 998 + int64(next()%4)
	}
	return int64(next() % 3000)
}

// thrownFault is a fault, mostly one of the log's file.
func thrownFault(next func() uint64, name string) api.Fault {
	f := api.Fault{Name: name, Kind: int(next()%3) + 1, Short: int(next()%70) - 3}
	if f.Kind == api.FaultRename {
		f.Kind = int(next()%5) + 1
	}
	if next()%8 == 0 {
		f.Name = "other"
	}
	if next()%8 == 0 {
		l := []int{math.MinInt, -1, 0, math.MaxInt}
		f.Short = l[next()%uint64(len(l))]
	}
	return f
}

// turn does one thrown call to a log, a disk and the model, and tells its name and its error.
func turn(t *testing.T, next func() uint64, d api.Disk, l api.Log, m *model) (api.Disk, api.Log, string, api.Errno) {
	t.Helper()
	var e, want api.Errno
	what := ""
	switch next() % 8 {
	case 0, 1, 2:
		what = "Add"
		u := thrownUnit(next)
		l, e = aof.Add(l, u)
		want = m.add(bytesOf(u))
	case 3:
		what = "Flush"
		d, l, e = aof.Flush(d, l)
		want = m.flush()
	case 4:
		what = "Sync"
		now := thrownTime(next, l.Last)
		d, l, e = aof.Sync(d, l, now)
		want = m.sync(now)
	case 5, 6:
		what = "Round"
		now := thrownTime(next, l.Last)
		d, l, e = aof.Round(d, l, now)
		want = m.round(now)
	case 7:
		what = "a fault"
		f := thrownFault(next, m.name)
		d.Faults = append(slices.Clone(d.Faults), f)
		m.faults = append(m.faults, f)
	}
	if e != want {
		t.Fatalf("%s: %d, want %d (%+v)", what, e, want, m)
	}
	return d, l, what, e
}

// begun is a disk with a log's file of so many bytes (none, if they are 0), and another file.
func begun(name string, size int) api.Disk {
	d := api.Disk{Files: []api.File{{Name: "other", Data: "beside", Synced: 2}}}
	if size > 0 {
		d.Files = append(d.Files, api.File{Name: name, Data: strings.Repeat("-", size), Synced: size})
	}
	return d
}

// wantOther holds another file than the log's.
func wantOther(t *testing.T, what string, d api.Disk) {
	t.Helper()
	if s, e := disk.Read(d, "other"); e != api.OK || s != "beside" || disk.Safe(d, "other") != "be" {
		t.Fatalf("%s: another file was turned: %+v", what, d)
	}
}

func TestP17_1_2_3_4_AsTheDocumentsWords(t *testing.T) {
	next := rolled(17)
	errors, synced, failed := map[api.Errno]int{}, 0, 0
	for range 4000 {
		size, policy := int(next()%3)*20, int(next()%5)
		quota := size + int(next()%400) - 20
		now := thrownTime(next, 0)
		d := begun("log", size)
		l := aof.Open("log", policy, quota, size, now)
		m := modelOf(d, "log", policy, quota, size, now)
		wantModel(t, "Open", d, l, m)
		for range 25 {
			var what string
			var e api.Errno
			d, l, what, e = turn(t, next, d, l, m)
			wantModel(t, what, d, l, m)
			wantOther(t, what, d)
			errors[e]++
		}
		synced += m.synced
		failed += m.failed
	}
	if errors[api.ErrFull] < 1000 || errors[api.ErrDisk] < 1000 || synced < 1000 || failed < 1000 {
		t.Errorf("thrown calls are too much alike: %v, %d, %d", errors, synced, failed)
	}
}

// everyStep does each of some steps to a log, a disk and the model, and tells what comes of it and its name.
func everyStep(t *testing.T, i int, d api.Disk, l api.Log, m *model) (api.Disk, api.Log, string) {
	t.Helper()
	var e, want api.Errno
	what := []string{"Add", "Flush", "Sync", "Round at once", "Round in time", "a fault of a write", "a fault of a sync"}[i]
	switch i {
	case 0:
		l, e = aof.Add(l, ping)
		want = m.add(pinged)
	case 1:
		d, l, e = aof.Flush(d, l)
		want = m.flush()
	case 2:
		d, l, e = aof.Sync(d, l, l.Last+1)
		want = m.sync(m.last + 1)
	case 3:
		d, l, e = aof.Round(d, l, l.Last+999)
		want = m.round(m.last + 999)
	case 4:
		d, l, e = aof.Round(d, l, l.Last+1000)
		want = m.round(m.last + 1000)
	case 5, 6:
		f := api.Fault{Name: "log", Kind: api.FaultWrite, Short: 10}
		if i == 6 {
			f.Kind = api.FaultSync
		}
		d.Faults = append(slices.Clone(d.Faults), f)
		m.faults = append(m.faults, f)
	}
	if e != want {
		t.Fatalf("%s: %d, want %d (%+v)", what, e, want, m)
	}
	return d, l, what
}

// Each of all short rows of steps, under each policy.
func TestP17_1_2_3_4_AllShortRows(t *testing.T) {
	const steps, long = 7, 5
	rows := 1
	for range long {
		rows *= steps
	}
	for policy := range 4 {
		for row := range rows {
			d := begun("log", 10)
			l := aof.Open("log", policy, 70, 10, 5)
			m := modelOf(d, "log", policy, 70, 10, 5)
			what := "Open"
			for left, i := row, 0; i < long; left, i = left/steps, i+1 {
				var step string
				d, l, step = everyStep(t, left%steps, d, l, m)
				what += ", " + step
				wantModel(t, what, d, l, m)
			}
		}
	}
}
