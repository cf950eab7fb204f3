package disk_test

import (
	"maps"
	"math"
	"reflect"
	"slices"
	"strings"
	"testing"

	"mews/api"
	"mews/disk"
)

// of is a disk of some files, without faults.
func of(files ...api.File) api.Disk { return api.Disk{Files: files} }

// file is a file.
func file(name, data string, synced int) api.File {
	return api.File{Name: name, Data: data, Synced: synced}
}

// faulty is a disk with some faults to come.
func faulty(d api.Disk, faults ...api.Fault) api.Disk {
	return api.Disk{Files: d.Files, Faults: faults}
}

// keep is a keep.
func keep(name string, n int) api.Keep { return api.Keep{Name: name, Bytes: n} }

// extremes are numbers at the ends of their type, and near 0.
var extremes = []int{math.MinInt, math.MinInt + 1, -2, -1, 0, 1, 2, math.MaxInt - 1, math.MaxInt}

// rolled gives numbers that look as if they were thrown; of one seed always the same ones.
func rolled(seed uint64) func() uint64 {
	return func() uint64 {
		seed = seed*6364136223846793005 + 1442695040888963407
		return (seed ^ seed>>29) >> 11
	}
}

// someNames are names that are alike, so that thrown ones often meet.
var someNames = []string{"a", "b", "", "a\x00", "ab"}

// thrownName is one of some names.
func thrownName(next func() uint64) string { return someNames[next()%uint64(len(someNames))] }

// thrownText is up to 5 bytes.
func thrownText(next func() uint64) string {
	b := make([]byte, next()%6)
	for i := range b {
		b[i] = byte(next())
	}
	return string(b)
}

// thrownCount is a number from -2 on that is not far above what a file has; now and then an extreme one.
func thrownCount(next func() uint64) int {
	if next()%8 == 0 {
		return extremes[next()%uint64(len(extremes))]
	}
	return int(next()%10) - 2
}

// thrown is a disk of up to 6 files, often several of one name, with up to 5 faults to come.
func thrown(next func() uint64) api.Disk {
	d := api.Disk{}
	for range next() % 7 {
		d.Files = append(d.Files, file(thrownName(next), thrownText(next), thrownCount(next)))
	}
	for range next() % 6 {
		d.Faults = append(d.Faults, api.Fault{Name: thrownName(next), Kind: int(next() % 5), Short: thrownCount(next)})
	}
	return d
}

// marked is a byte, and whether it is safe.
type marked struct {
	b    byte
	safe bool
}

// stack is the files of one name, each as marked bytes: the first one counts.
type stack [][]marked

// model is a disk as the document's words say it: the files of each name, in order, and the faults to come.
type model struct {
	files  map[string]stack
	faults []api.Fault
}

// modelOf reads a disk.
func modelOf(d api.Disk) model {
	m := model{files: map[string]stack{}}
	for _, f := range d.Files {
		var l []marked
		for i := range len(f.Data) {
			l = append(l, marked{f.Data[i], i < f.Synced})
		}
		m.files[f.Name] = append(m.files[f.Name], l)
	}
	m.faults = append(m.faults, d.Faults...)
	return m
}

// meets tells the fault that a call meets, which comes no more then.
func (m *model) meets(kind int, name string) (api.Fault, bool) {
	for i, f := range m.faults {
		if f.Kind == kind && f.Name == name {
			m.faults = append(append([]api.Fault{}, m.faults[:i]...), m.faults[i+1:]...)
			return f, true
		}
	}
	return api.Fault{}, false
}

// there tells whether there is a file of a name.
func (m *model) there(name string) bool { return len(m.files[name]) > 0 }

// write puts bytes one by one, as many as a fault lets.
func (m *model) write(name, s string) (int, api.Errno) {
	if !m.there(name) {
		m.files[name] = stack{nil}
	}
	fault, met := m.meets(api.FaultWrite, name)
	n := 0
	for i := range len(s) {
		if met && i >= fault.Short {
			break
		}
		m.files[name][0] = append(m.files[name][0], marked{s[i], false})
		n++
	}
	if met {
		return n, api.ErrDisk
	}
	return n, api.OK
}

// sync marks all bytes.
func (m *model) sync(name string) api.Errno {
	if !m.there(name) {
		return api.ErrNone
	}
	if _, met := m.meets(api.FaultSync, name); met {
		return api.ErrDisk
	}
	for i := range m.files[name][0] {
		m.files[name][0][i].safe = true
	}
	return api.OK
}

// rename lets two stacks go, and makes the file that counted in the one the only one of the other.
func (m *model) rename(from, to string) api.Errno {
	if !m.there(from) {
		return api.ErrNone
	}
	if _, met := m.meets(api.FaultRename, from); met {
		return api.ErrDisk
	}
	one := m.files[from][0]
	delete(m.files, from)
	m.files[to] = stack{one}
	return api.OK
}

// remove lets a stack go.
func (m *model) remove(name string) { delete(m.files, name) }

// cut takes bytes away from the end, one by one.
func (m *model) cut(name string, n int) api.Errno {
	if !m.there(name) {
		return api.ErrNone
	}
	for len(m.files[name][0]) > max(n, 0) {
		m.files[name][0] = m.files[name][0][:len(m.files[name][0])-1]
	}
	return api.OK
}

// crash leaves what is marked, and of the rest what a keep tells, and marks that.
func (m *model) crash(keeps ...api.Keep) {
	m.faults = nil
	for name, l := range m.files {
		for i, bytes := range l {
			var left []marked
			more := kept(keeps, name)
			for _, one := range bytes {
				if !one.safe {
					if more <= 0 {
						break
					}
					more--
				}
				left = append(left, marked{one.b, true})
			}
			l[i] = left
		}
	}
}

// kept tells what the first keep of a name tells, or 0.
func kept(keeps []api.Keep, name string) int {
	for _, k := range keeps {
		if k.Name == name {
			return k.Bytes
		}
	}
	return 0
}

// names tells all names, rising.
func (m *model) names() []string {
	var l []string
	for name, files := range m.files {
		if len(files) > 0 {
			l = append(l, name)
		}
	}
	slices.Sort(l)
	return l
}

// read tells the bytes, and the safe ones, of the file of a name that counts.
func (m *model) read(name string) (string, string) {
	var all, safe strings.Builder
	if !m.there(name) {
		return "", ""
	}
	for _, one := range m.files[name][0] {
		all.WriteByte(one.b)
		if one.safe {
			safe.WriteByte(one.b)
		}
	}
	return all.String(), safe.String()
}

// wantModel holds a disk against the model, with each file that stands behind another one of its name, too.
func wantModel(t *testing.T, what string, d api.Disk, m model) {
	t.Helper()
	got := modelOf(d)
	if len(got.faults)+len(m.faults) > 0 && !reflect.DeepEqual(got.faults, m.faults) {
		t.Fatalf("%s: faults %v, want %v", what, got.faults, m.faults)
	}
	if !slices.Equal(got.names(), m.names()) {
		t.Fatalf("%s: names %q, want %q", what, got.names(), m.names())
	}
	same := func(a, b stack) bool {
		return slices.EqualFunc(a, b, func(a, b []marked) bool { return slices.Equal(a, b) })
	}
	for _, name := range m.names() {
		if !same(got.files[name], m.files[name]) {
			t.Fatalf("%s: file %q: %v, want %v", what, name, got.files[name], m.files[name])
		}
	}
}

// wantRead holds what is told of a disk against the model.
func wantRead(t *testing.T, d api.Disk, m model) {
	t.Helper()
	if got := disk.Names(d); !slices.Equal(got, m.names()) {
		t.Fatalf("Names(%v): %q, want %q", d, got, m.names())
	}
	for _, name := range append(slices.Clone(someNames), "none") {
		all, safe := m.read(name)
		want := api.OK
		if !m.there(name) {
			want = api.ErrNone
		}
		if got, e := disk.Read(d, name); got != all || e != want {
			t.Fatalf("Read(%v, %q): %q, %d, want %q, %d", d, name, got, e, all, want)
		}
		if got := disk.Safe(d, name); got != safe {
			t.Fatalf("Safe(%v, %q): %q, want %q", d, name, got, safe)
		}
	}
}

// wantFiles holds a disk's files and faults against written ones, in order.
func wantFiles(t *testing.T, what string, got, want api.Disk) {
	t.Helper()
	if !slices.Equal(got.Files, want.Files) || !slices.Equal(got.Faults, want.Faults) {
		t.Errorf("%s: %v, want %v", what, got, want)
	}
}

func TestP16_1_ReadAndSafeTellAFilesBytes(t *testing.T) {
	d := of(file("b", "bytes", 2), file("a", "", 0), file("b", "other", 5), file("", "nameless", 8),
		file("below", "xyz", -1), file("least", "xyz", math.MinInt), file("above", "xyz", 4), file("most", "xyz", math.MaxInt),
		file("odd", "a\x00\xff\r\n", 3))
	for _, c := range []struct {
		name, all, safe string
		e               api.Errno
	}{
		{"a", "", "", api.OK},
		{"b", "bytes", "by", api.OK},
		{"", "nameless", "nameless", api.OK},
		{"below", "xyz", "", api.OK},
		{"least", "xyz", "", api.OK},
		{"above", "xyz", "xyz", api.OK},
		{"most", "xyz", "xyz", api.OK},
		{"odd", "a\x00\xff\r\n", "a\x00\xff", api.OK},
		{"c", "", "", api.ErrNone},
		{"B", "", "", api.ErrNone},
		{"bb", "", "", api.ErrNone},
	} {
		if got, e := disk.Read(d, c.name); got != c.all || e != c.e {
			t.Errorf("Read(%q): %q, %d, want %q, %d", c.name, got, e, c.all, c.e)
		}
		if got := disk.Safe(d, c.name); got != c.safe {
			t.Errorf("Safe(%q): %q, want %q", c.name, got, c.safe)
		}
	}
}

func TestP16_1_NamesRiseAndComeOnce(t *testing.T) {
	for _, c := range []struct {
		d    api.Disk
		want []string
	}{
		{api.Disk{}, nil},
		{of(file("b", "", 0), file("a", "x", 0)), []string{"a", "b"}},
		{of(file("b", "1", 0), file("a", "", 0), file("b", "2", 0), file("b", "1", 0)), []string{"a", "b"}},
		{of(file("b", "", 0), file("\xff", "", 0), file("B", "", 0), file("", "", 0), file("a\x00", "", 0), file("a", "", 0), file("ab", "", 0), file("é", "", 0)),
			[]string{"", "B", "a", "a\x00", "ab", "b", "é", "\xff"}},
		{faulty(of(file("a", "", 0)), api.Fault{Name: "f", Kind: api.FaultWrite}), []string{"a"}},
	} {
		if got := disk.Names(c.d); !slices.Equal(got, c.want) {
			t.Errorf("Names(%v): %q, want %q", c.d, got, c.want)
		}
	}
}

func TestP16_1_SameTellsWhetherDisksAre(t *testing.T) {
	a, b := file("a", "x", 1), file("b", "yz", 1)
	f, g := api.Fault{Name: "a", Kind: api.FaultWrite, Short: 1}, api.Fault{Name: "a", Kind: api.FaultSync}
	for _, c := range []struct {
		what string
		a, b api.Disk
		want bool
	}{
		{"nothing", api.Disk{}, api.Disk{Files: []api.File{}, Faults: []api.Fault{}}, true},
		{"the same", of(a, b), of(a, b), true},
		{"another order", of(a, b), of(b, a), true},
		{"one that does not count", of(a, b), of(a, b, file("a", "q", 0)), true},
		{"ones that do not count", of(a, b, file("a", "q", 0)), of(b, file("b", "r", 0), a, file("b", "s", 0)), true},
		{"the other one of a name is the first", of(a, file("a", "q", 0)), of(file("a", "q", 0), a), false},
		{"one more", of(a, b), of(a), false},
		{"none", of(a), api.Disk{}, false},
		{"an empty one more", of(a), of(a, file("", "", 0)), false},
		{"another name", of(a), of(file("A", "x", 1)), false},
		{"other bytes", of(a), of(file("a", "y", 1)), false},
		{"more bytes", of(a), of(file("a", "xx", 1)), false},
		{"fewer that are safe", of(b), of(file("b", "yz", 0)), false},
		{"more that are safe", of(b), of(file("b", "yz", 2)), false},
		{"below 0 is 0", of(file("b", "yz", 0)), of(file("b", "yz", -1)), true},
		{"far below 0 is 0", of(file("b", "yz", -7)), of(file("b", "yz", math.MinInt)), true},
		{"below 0 is not 1", of(b), of(file("b", "yz", -1)), false},
		{"above all is all", of(file("b", "yz", 2)), of(file("b", "yz", 3)), true},
		{"far above all is all", of(file("b", "yz", 2)), of(file("b", "yz", math.MaxInt)), true},
		{"above all is not fewer", of(b), of(file("b", "yz", 3)), false},
		{"the same faults", faulty(of(a), f, g), faulty(of(a), f, g), true},
		{"faults in another order", faulty(of(a), f, g), faulty(of(a), g, f), false},
		{"a fault less", faulty(of(a), f, g), faulty(of(a), f), false},
		{"a fault twice", faulty(of(a), f), faulty(of(a), f, f), false},
		{"no fault", faulty(of(a), f), of(a), false},
		{"a fault of another name", faulty(of(a), f), faulty(of(a), api.Fault{Name: "b", Kind: f.Kind, Short: 1}), false},
		{"a fault of another kind", faulty(of(a), f), faulty(of(a), api.Fault{Name: "a", Kind: 9, Short: 1}), false},
		{"a fault of another length", faulty(of(a), f), faulty(of(a), api.Fault{Name: "a", Kind: f.Kind, Short: 2}), false},
	} {
		if got := disk.Same(c.a, c.b); got != c.want {
			t.Errorf("%s: %t", c.what, got)
		}
		if got := disk.Same(c.b, c.a); got != c.want {
			t.Errorf("%s, the other way: %t", c.what, got)
		}
		if !disk.Same(c.a, c.a) || !disk.Same(c.b, c.b) {
			t.Errorf("%s: one is not the same as itself", c.what)
		}
	}
}

func TestP16_1_OfManyFilesOfOneNameTheFirstCounts(t *testing.T) {
	var a api.Disk
	for i := range 600 {
		a.Files = append(a.Files, file(someNames[i%3], strings.Repeat("x", i), i/2))
	}
	firsts := of(file("", "xx", 1), file("a", "", 0), file("b", "x", 0))
	if !disk.Same(a, firsts) || !disk.Same(firsts, a) {
		t.Error("others count")
	}
	slices.Reverse(a.Files)
	if disk.Same(a, firsts) || disk.Same(firsts, a) {
		t.Error("the last ones count")
	}
	if got := disk.Names(a); !slices.Equal(got, []string{"", "a", "b"}) {
		t.Errorf("Names: %q", got)
	}
}

func TestP16_2_WritePutsBytesBehind(t *testing.T) {
	write := func(short int) api.Fault { return api.Fault{Name: "a", Kind: api.FaultWrite, Short: short} }
	ab := of(file("a", "12", 1), file("b", "x", 1))
	for _, c := range []struct {
		what    string
		d       api.Disk
		name, s string
		want    api.Disk
		n       int
		e       api.Errno
	}{
		{"onto a disk without files", api.Disk{}, "a", "xy", of(file("a", "xy", 0)), 2, api.OK},
		{"nothing, onto a disk without files", api.Disk{}, "a", "", of(file("a", "", 0)), 0, api.OK},
		{"behind", ab, "a", "34", of(file("a", "1234", 1), file("b", "x", 1)), 2, api.OK},
		{"nothing", ab, "a", "", ab, 0, api.OK},
		{"behind all others", ab, "", "\x00\xff", of(file("a", "12", 1), file("b", "x", 1), file("", "\x00\xff", 0)), 2, api.OK},
		{"the first of a name", of(file("b", "", 0), file("a", "1", 1), file("a", "2", 1)), "a", "3", of(file("b", "", 0), file("a", "13", 1), file("a", "2", 1)), 1, api.OK},
		{"a Synced above all", of(file("a", "12", 9)), "a", "34", of(file("a", "1234", 2)), 2, api.OK},
		{"a Synced below 0", of(file("a", "12", -9)), "a", "34", of(file("a", "1234", 0)), 2, api.OK},
		{"a fault, 0", faulty(ab, write(0)), "a", "34", ab, 0, api.ErrDisk},
		{"a fault, 1", faulty(ab, write(1)), "a", "34", of(file("a", "123", 1), file("b", "x", 1)), 1, api.ErrDisk},
		{"a fault, all", faulty(ab, write(2)), "a", "34", of(file("a", "1234", 1), file("b", "x", 1)), 2, api.ErrDisk},
		{"a fault, above all", faulty(ab, write(3)), "a", "34", of(file("a", "1234", 1), file("b", "x", 1)), 2, api.ErrDisk},
		{"a fault, far above all", faulty(ab, write(math.MaxInt)), "a", "34", of(file("a", "1234", 1), file("b", "x", 1)), 2, api.ErrDisk},
		{"a fault, below 0", faulty(ab, write(-1)), "a", "34", ab, 0, api.ErrDisk},
		{"a fault, far below 0", faulty(ab, write(math.MinInt)), "a", "34", ab, 0, api.ErrDisk},
		{"a fault, nothing", faulty(ab, write(1)), "a", "", ab, 0, api.ErrDisk},
		{"a fault of a file that is not there", faulty(of(file("b", "x", 1)), write(1)), "a", "34", of(file("b", "x", 1), file("a", "3", 0)), 1, api.ErrDisk},
		{"a fault of 0 of a file that is not there", faulty(of(file("b", "x", 1)), write(0)), "a", "34", of(file("b", "x", 1), file("a", "", 0)), 0, api.ErrDisk},
		{"a fault, and a Synced above all", faulty(of(file("a", "12", 9)), write(1)), "a", "34", of(file("a", "123", 2)), 1, api.ErrDisk},
		{"the first of some faults", faulty(ab, write(1), write(2)), "a", "34", faulty(of(file("a", "123", 1), file("b", "x", 1)), write(2)), 1, api.ErrDisk},
		{"faults of other kinds and names", faulty(ab, api.Fault{Name: "a", Kind: api.FaultSync}, api.Fault{Name: "b", Kind: api.FaultWrite}, api.Fault{Name: "a", Kind: api.FaultRename}, api.Fault{Name: "a"}), "a", "3",
			faulty(of(file("a", "123", 1), file("b", "x", 1)), api.Fault{Name: "a", Kind: api.FaultSync}, api.Fault{Name: "b", Kind: api.FaultWrite}, api.Fault{Name: "a", Kind: api.FaultRename}, api.Fault{Name: "a"}), 1, api.OK},
		{"one behind others", faulty(ab, api.Fault{Name: "a", Kind: api.FaultSync}, api.Fault{Name: "b", Kind: api.FaultWrite, Short: 7}, write(0), write(2)), "a", "34",
			faulty(ab, api.Fault{Name: "a", Kind: api.FaultSync}, api.Fault{Name: "b", Kind: api.FaultWrite, Short: 7}, write(2)), 0, api.ErrDisk},
	} {
		got, n, e := disk.Write(c.d, c.name, c.s)
		if n != c.n || e != c.e {
			t.Errorf("%s: %d, %d, want %d, %d", c.what, n, e, c.n, c.e)
		}
		wantFiles(t, c.what, got, c.want)
	}
}

func TestP16_2_SyncMakesBytesSafe(t *testing.T) {
	sync := func(name string) api.Fault { return api.Fault{Name: name, Kind: api.FaultSync, Short: 1} }
	ab := of(file("a", "12", 1), file("b", "xy", 1))
	for _, c := range []struct {
		what string
		d    api.Disk
		name string
		want api.Disk
		e    api.Errno
	}{
		{"no file", api.Disk{}, "a", api.Disk{}, api.ErrNone},
		{"not there", ab, "c", ab, api.ErrNone},
		{"not there, and a fault is of its name", faulty(ab, sync("c")), "c", faulty(ab, sync("c")), api.ErrNone},
		{"some", ab, "a", of(file("a", "12", 2), file("b", "xy", 1)), api.OK},
		{"the other one", ab, "b", of(file("a", "12", 1), file("b", "xy", 2)), api.OK},
		{"an empty one", of(file("a", "", 0)), "a", of(file("a", "", 0)), api.OK},
		{"a Synced below 0", of(file("a", "12", -1)), "a", of(file("a", "12", 2)), api.OK},
		{"the first of a name", of(file("a", "12", 1), file("a", "34", 1)), "a", of(file("a", "12", 2), file("a", "34", 1)), api.OK},
		{"a fault", faulty(ab, sync("a")), "a", ab, api.ErrDisk},
		{"the first of some faults", faulty(ab, sync("a"), sync("b"), sync("a")), "a", faulty(ab, sync("b"), sync("a")), api.ErrDisk},
		{"faults of other kinds and names", faulty(ab, sync("b"), api.Fault{Name: "a", Kind: api.FaultWrite}), "a", faulty(of(file("a", "12", 2), file("b", "xy", 1)), sync("b"), api.Fault{Name: "a", Kind: api.FaultWrite}), api.OK},
		{"one behind others", faulty(ab, sync("b"), api.Fault{Name: "a", Kind: api.FaultRename}, sync("a")), "a", faulty(ab, sync("b"), api.Fault{Name: "a", Kind: api.FaultRename}), api.ErrDisk},
	} {
		got, e := disk.Sync(c.d, c.name)
		if e != c.e {
			t.Errorf("%s: %d, want %d", c.what, e, c.e)
		}
		wantFiles(t, c.what, got, c.want)
	}
	got, _ := disk.Sync(of(file("a", "12", 9)), "a")
	got, _, _ = disk.Write(got, "a", "3")
	if s := disk.Safe(got, "a"); s != "12" {
		t.Errorf("a Synced above all, and a Write: %q is safe", s)
	}
}

func TestP16_2_RenameGivesAnothersName(t *testing.T) {
	rename := func(name string) api.Fault { return api.Fault{Name: name, Kind: api.FaultRename} }
	a, b, c := file("a", "12", 1), file("b", "xy", 2), file("c", "", 0)
	abc := of(a, b, c)
	for _, k := range []struct {
		what     string
		d        api.Disk
		from, to string
		want     api.Disk
		e        api.Errno
	}{
		{"no file", api.Disk{}, "a", "b", api.Disk{}, api.ErrNone},
		{"not there", abc, "d", "a", abc, api.ErrNone},
		{"not there, to its own name", abc, "d", "d", abc, api.ErrNone},
		{"not there, and a fault is of its name", faulty(abc, rename("d")), "d", "a", faulty(abc, rename("d")), api.ErrNone},
		{"to a new name", abc, "b", "d", of(a, file("d", "xy", 2), c), api.OK},
		{"to no name", abc, "a", "", of(file("", "12", 1), b, c), api.OK},
		{"to one that is ahead", abc, "b", "a", of(file("a", "xy", 2), c), api.OK},
		{"to one that is behind", abc, "a", "b", of(file("b", "12", 1), c), api.OK},
		{"to its own name", abc, "b", "b", abc, api.OK},
		{"to a name of some", of(c, b, a, c, c), "a", "c", of(b, file("c", "12", 1)), api.OK},
		{"to its own name, of some", of(b, a, c, file("a", "3", 0)), "a", "a", of(b, a, c), api.OK},
		{"the first of a name", of(b, a, file("a", "3", 0)), "a", "d", of(b, file("d", "12", 1)), api.OK},
		{"the first of a name, to one that is there", of(b, a, file("b", "q", 1), file("a", "3", 1), c), "a", "b", of(file("b", "12", 1), c), api.OK},
		{"a fault, of some of a name", faulty(of(a, file("a", "3", 0)), rename("a")), "a", "d", of(a, file("a", "3", 0)), api.ErrDisk},
		{"a fault", faulty(abc, rename("a")), "a", "b", abc, api.ErrDisk},
		{"a fault, to its own name", faulty(abc, rename("a")), "a", "a", abc, api.ErrDisk},
		{"a fault of the other one", faulty(abc, rename("b")), "a", "b", faulty(of(file("b", "12", 1), c), rename("b")), api.OK},
		{"the first of some faults", faulty(abc, rename("b"), rename("a"), rename("a")), "a", "b", faulty(abc, rename("b"), rename("a")), api.ErrDisk},
		{"faults of other kinds", faulty(abc, api.Fault{Name: "a", Kind: api.FaultWrite}, api.Fault{Name: "a", Kind: api.FaultSync}), "a", "d", faulty(of(file("d", "12", 1), b, c), api.Fault{Name: "a", Kind: api.FaultWrite}, api.Fault{Name: "a", Kind: api.FaultSync}), api.OK},
	} {
		got, e := disk.Rename(k.d, k.from, k.to)
		if e != k.e {
			t.Errorf("%s: %d, want %d", k.what, e, k.e)
		}
		if !disk.Same(got, k.want) || len(got.Files) != len(k.want.Files) {
			t.Errorf("%s: %v, want %v", k.what, got, k.want)
		}
	}
}

func TestP16_2_RemoveLetsAllOfANameGo(t *testing.T) {
	a, b := file("a", "12", 1), file("b", "xy", 2)
	faults := []api.Fault{{Name: "a", Kind: api.FaultWrite}, {Name: "a", Kind: api.FaultSync}, {Name: "a", Kind: api.FaultRename}}
	for _, c := range []struct {
		d    api.Disk
		name string
		want api.Disk
	}{
		{api.Disk{}, "a", api.Disk{}},
		{of(a, b), "c", of(a, b)},
		{of(a, b), "a", of(b)},
		{of(a), "a", api.Disk{}},
		{of(a, b, a, file("a", "", 0), b), "a", of(b, b)},
		{faulty(of(a, b), faults...), "a", faulty(of(b), faults...)},
		{faulty(of(b), faults...), "a", faulty(of(b), faults...)},
	} {
		wantFiles(t, "Remove", disk.Remove(c.d, c.name), c.want)
	}
}

func TestP16_2_CutLeavesTheFirstBytes(t *testing.T) {
	faults := []api.Fault{{Name: "a", Kind: api.FaultWrite}, {Name: "a", Kind: api.FaultSync}, {Name: "a", Kind: api.FaultRename}}
	b := file("b", "wxyz", 3)
	for _, c := range []struct {
		synced, n    int
		data         string
		left, safely string
	}{
		{2, 4, "1234", "1234", "12"},
		{2, 3, "1234", "123", "12"},
		{2, 2, "1234", "12", "12"},
		{2, 1, "1234", "1", "1"},
		{2, 0, "1234", "", ""},
		{2, -1, "1234", "", ""},
		{2, math.MinInt, "1234", "", ""},
		{2, 5, "1234", "1234", "12"},
		{2, math.MaxInt, "1234", "1234", "12"},
		{-3, 2, "1234", "12", ""},
		{9, 2, "1234", "12", "12"},
		{9, 9, "1234", "1234", "1234"},
		{0, 1, "", "", ""},
	} {
		got, e := disk.Cut(faulty(of(b, file("a", c.data, c.synced), file("a", "98", 1)), faults...), "a", c.n)
		want := faulty(of(b, file("a", c.left, len(c.safely)), file("a", "98", 1)), faults...)
		if e != api.OK || !disk.Same(got, want) || len(got.Files) != 3 {
			t.Errorf("Cut of %d, %d safe: %v, %d, want %v", c.n, c.synced, got, e, want)
		}
		// What was cut off is not safe, though it was, when other bytes come in its place.
		got, _, _ = disk.Write(got, "a", "56789")
		if s := disk.Safe(got, "a"); e == api.OK && s != c.safely {
			t.Errorf("Write behind a cut of %d, %d safe: %q is safe, want %q", c.n, c.synced, s, c.safely)
		}
	}
	for _, n := range extremes {
		d := faulty(of(b), faults...)
		got, e := disk.Cut(d, "a", n)
		if e != api.ErrNone {
			t.Errorf("not there, %d: %d", n, e)
		}
		wantFiles(t, "not there", got, d)
	}
}

func TestP16_3_CrashLeavesWhatIsSafeAndWhatIsKept(t *testing.T) {
	for _, c := range []struct {
		what   string
		synced int
		keeps  []api.Keep
		left   string
	}{
		{"no keeps", 2, nil, "12"},
		{"a keep", 2, []api.Keep{keep("a", 1)}, "123"},
		{"a keep of all", 2, []api.Keep{keep("a", 3)}, "12345"},
		{"a keep above all that is not safe", 2, []api.Keep{keep("a", 4)}, "12345"},
		{"a keep far above all", 2, []api.Keep{keep("a", math.MaxInt)}, "12345"},
		{"a keep of 0", 2, []api.Keep{keep("a", 0)}, "12"},
		{"a keep below 0", 2, []api.Keep{keep("a", -1)}, "12"},
		{"a keep far below 0", 2, []api.Keep{keep("a", math.MinInt)}, "12"},
		{"some keeps", 2, []api.Keep{keep("a", 1), keep("a", 3)}, "123"},
		{"some keeps, 0 first", 2, []api.Keep{keep("a", 0), keep("a", 3)}, "12"},
		{"some keeps, below 0 first", 2, []api.Keep{keep("a", -1), keep("a", 3)}, "12"},
		{"keeps of other names", 2, []api.Keep{keep("b", 1), keep("", 2), keep("A", 2), keep("none", 9)}, "12"},
		{"a keep behind others", 2, []api.Keep{keep("b", 3), keep("none", 9), keep("a", 1)}, "123"},
		{"nothing is safe", 0, nil, ""},
		{"nothing is safe, a keep", 0, []api.Keep{keep("a", 2)}, "12"},
		{"below 0 is safe, a keep", -1, []api.Keep{keep("a", 2)}, "12"},
		{"far below 0 is safe, a keep", math.MinInt, []api.Keep{keep("a", 2)}, "12"},
		{"all is safe", 5, []api.Keep{keep("a", 2)}, "12345"},
		{"above all is safe", 6, nil, "12345"},
		{"above all is safe, a keep", math.MaxInt, []api.Keep{keep("a", math.MaxInt)}, "12345"},
		{"above all is safe, a keep below 0", 9, []api.Keep{keep("a", -3)}, "12345"},
	} {
		d := faulty(of(file("x", "rest", 1), file("a", "12345", c.synced), file("y", "", 0)),
			api.Fault{Name: "a", Kind: api.FaultSync}, api.Fault{Name: "none", Kind: api.FaultWrite})
		got := disk.Crash(d, c.keeps...)
		wantFiles(t, c.what, got, of(file("x", "r", 1), file("a", c.left, len(c.left)), file("y", "", 0)))
	}
	wantFiles(t, "no files", disk.Crash(api.Disk{}, keep("a", 1)), api.Disk{})
	wantFiles(t, "faults alone", disk.Crash(faulty(api.Disk{}, api.Fault{Name: "a"})), api.Disk{})
}

func TestP16_3_CrashTakesEachFilesKeep(t *testing.T) {
	d := of(file("a", "1234", 1), file("b", "1234", 1), file("c", "1234", 1), file("", "1234", 1))
	got := disk.Crash(d, keep("c", 2), keep("a", 1), keep("", 9), keep("c", 3))
	wantFiles(t, "Crash", got, of(file("a", "12", 2), file("b", "1", 1), file("c", "123", 3), file("", "1234", 4)))
}

func TestP16_3_CrashOfTheExample(t *testing.T) {
	d, _, _ := disk.Write(api.Disk{}, "f", "a")
	d, _ = disk.Sync(d, "f")
	d, _, _ = disk.Write(d, "f", "b")
	d = disk.Crash(d)
	all, e := disk.Read(d, "f")
	if all != "a" || e != api.OK || disk.Safe(d, "f") != "a" {
		t.Errorf("%q, %d, of which %q is safe", all, e, disk.Safe(d, "f"))
	}
}

// turn does one thrown call to a disk and to the model, and tells its name.
func turn(t *testing.T, next func() uint64, d api.Disk, m *model) (api.Disk, string) {
	t.Helper()
	name, other := thrownName(next), thrownName(next)
	var e, want api.Errno
	what := ""
	switch next() % 6 {
	case 0:
		what = "Write " + name
		s, n, many := thrownText(next), 0, 0
		d, n, e = disk.Write(d, name, s)
		if many, want = m.write(name, s); n != many {
			t.Fatalf("%s: %d bytes were written, want %d", what, n, many)
		}
	case 1:
		what = "Sync " + name
		d, e = disk.Sync(d, name)
		want = m.sync(name)
	case 2:
		what = "Rename " + name + " " + other
		d, e = disk.Rename(d, name, other)
		want = m.rename(name, other)
	case 3:
		what = "Remove " + name
		d = disk.Remove(d, name)
		m.remove(name)
	case 4:
		what = "Cut " + name
		n := thrownCount(next)
		d, e = disk.Cut(d, name, n)
		want = m.cut(name, n)
	case 5:
		what = "Crash"
		keeps := []api.Keep{keep(name, thrownCount(next)), keep(other, thrownCount(next)), keep(name, 3)}[:next()%4]
		d = disk.Crash(d, keeps...)
		m.crash(keeps...)
	}
	if e != want {
		t.Fatalf("%s: %d, want %d", what, e, want)
	}
	return d, what
}

func TestP16_1_2_3_AsTheDocumentsWords(t *testing.T) {
	next := rolled(16)
	for range 3000 {
		d := thrown(next)
		m := modelOf(d)
		wantRead(t, d, m)
		for range 12 {
			var what string
			d, what = turn(t, next, d, &m)
			wantModel(t, what, d, m)
			wantRead(t, d, m)
		}
	}
}

func TestP16_1_SameAsTheDocumentsWords(t *testing.T) {
	next := rolled(161)
	same := func(a, b model) bool {
		if !slices.Equal(a.names(), b.names()) || !slices.Equal(a.faults, b.faults) {
			return false
		}
		for _, name := range a.names() {
			if !slices.Equal(a.files[name][0], b.files[name][0]) {
				return false
			}
		}
		return true
	}
	counts := map[bool]int{}
	for range 20000 {
		a := thrown(next)
		b := api.Disk{Files: slices.Clone(a.Files), Faults: slices.Clone(a.Faults)}
		if n := len(b.Files); n > 1 {
			i, j := next()%uint64(n), next()%uint64(n)
			b.Files[i], b.Files[j] = b.Files[j], b.Files[i]
		}
		if n := len(b.Files); n > 0 && next()%2 == 0 {
			b.Files[next()%uint64(n)].Synced = thrownCount(next)
		}
		if n := len(b.Faults); n > 1 && next()%4 == 0 {
			b.Faults[0], b.Faults[n-1] = b.Faults[n-1], b.Faults[0]
		}
		want := same(modelOf(a), modelOf(b))
		counts[want]++
		if got := disk.Same(a, b); got != want {
			t.Fatalf("Same(%v, %v): %t", a, b, got)
		}
	}
	if counts[true] < 1000 || counts[false] < 1000 {
		t.Errorf("thrown ones are too much alike: %v", counts)
	}
}

func TestP16_4_WhatIsSafeIsLeft(t *testing.T) {
	next := rolled(164)
	for range 5000 {
		d := thrown(next)
		var keeps []api.Keep
		for range next() % 4 {
			keeps = append(keeps, keep(thrownName(next), thrownCount(next)))
		}
		got := disk.Crash(d, keeps...)
		if !slices.Equal(disk.Names(got), disk.Names(d)) {
			t.Fatalf("Crash(%v): %q are left", d, disk.Names(got))
		}
		for _, name := range disk.Names(d) {
			was, _ := disk.Read(d, name)
			left, _ := disk.Read(got, name)
			safe := disk.Safe(d, name)
			if !strings.HasPrefix(left, safe) || !strings.HasPrefix(was, safe) || !strings.HasPrefix(was, left) {
				t.Fatalf("Crash(%v, %v): of %q is left %q, of which %q was safe", d, keeps, was, left, safe)
			}
			if s := disk.Safe(got, name); s != left {
				t.Fatalf("Crash(%v, %v): of %q is safe %q", d, keeps, left, s)
			}
		}
	}
}

func TestP16_5_CrashBehindACrashTurnsNothing(t *testing.T) {
	next := rolled(165)
	for range 5000 {
		d := disk.Crash(thrown(next), keep(thrownName(next), thrownCount(next)))
		again := disk.Crash(d)
		wantFiles(t, "a crash behind a crash", again, d)
		wantFiles(t, "one that keeps", disk.Crash(d, keep("a", 3), keep("b", -1)), d)
		if !disk.Same(d, again) {
			t.Fatalf("%v, %v", d, again)
		}
	}
}

func TestP16_6_NoCallTurnsAnotherFile(t *testing.T) {
	next := rolled(166)
	for range 5000 {
		d := thrown(next)
		name, to := thrownName(next), thrownName(next)
		wrote, _, _ := disk.Write(d, name, thrownText(next))
		synced, _ := disk.Sync(d, name)
		renamed, _ := disk.Rename(d, name, to)
		cut, _ := disk.Cut(d, name, thrownCount(next))
		for what, got := range map[string]api.Disk{
			"Write": wrote, "Sync": synced, "Rename": renamed, "Cut": cut, "Remove": disk.Remove(d, name),
		} {
			for _, other := range someNames {
				if other == name || what == "Rename" && other == to {
					continue
				}
				was, e := disk.Read(d, other)
				is, f := disk.Read(got, other)
				if was != is || e != f || disk.Safe(d, other) != disk.Safe(got, other) {
					t.Fatalf("%s %q of %v: %q is %q, of which %q is safe", what, name, d, other, is, disk.Safe(got, other))
				}
			}
		}
	}
}

// counting is a disk of the files that count alone, in order.
func counting(d api.Disk) api.Disk {
	alone := api.Disk{Faults: d.Faults}
	for _, f := range d.Files {
		if !slices.ContainsFunc(alone.Files, func(g api.File) bool { return g.Name == f.Name }) {
			alone.Files = append(alone.Files, f)
		}
	}
	return alone
}

func TestP16_6_WhatDoesNotCountIsToldByNoCall(t *testing.T) {
	next := rolled(51)
	for range 5000 {
		d := thrown(next)
		alone := counting(d)
		for range 3 {
			if !slices.Equal(disk.Names(d), disk.Names(alone)) {
				t.Fatalf("%v, %v: %q, %q", d, alone, disk.Names(d), disk.Names(alone))
			}
			name, to, i := thrownName(next), thrownName(next), next()%6
			a, b := everyCall(d, name, to)[i], everyCall(alone, name, to)[i]
			if !disk.Same(a, b) {
				t.Fatalf("call %d of %q, %q: %v became %v, %v became %v", i, name, to, d, a, alone, b)
			}
			d, alone = a, b
		}
	}
}

// everyCall does each call, and tells the disks that come of it.
func everyCall(d api.Disk, name, to string) []api.Disk {
	wrote, _, _ := disk.Write(d, name, "bytes")
	synced, _ := disk.Sync(d, name)
	renamed, _ := disk.Rename(d, name, to)
	cut, _ := disk.Cut(d, name, 1)
	return []api.Disk{wrote, synced, renamed, disk.Remove(d, name), cut, disk.Crash(d, keep(name, 1))}
}

// spared is a list with spare room behind it, in which something stands.
func spared[T any](l []T, behind T) []T {
	l = append(slices.Clone(l), behind, behind, behind)
	return l[:len(l)-3]
}

func TestP16_6_WhatIsHandedInStaysAsItWas(t *testing.T) {
	next := rolled(7)
	for range 3000 {
		d := thrown(next)
		d.Files = spared(d.Files, file("behind", "xyz", 2))
		d.Faults = spared(d.Faults, api.Fault{Name: "behind", Kind: 7, Short: 7})
		files, faults := slices.Clone(d.Files[:cap(d.Files)]), slices.Clone(d.Faults[:cap(d.Faults)])
		for _, got := range everyCall(d, thrownName(next), thrownName(next)) {
			// What was answered may be written to as one likes.
			got.Files = append(got.Files, file("more", "", 0))
			got.Faults = append(got.Faults, api.Fault{})
			clear(got.Files[:cap(got.Files)])
			clear(got.Faults[:cap(got.Faults)])
		}
		clear(disk.Names(d))
		disk.Same(d, api.Disk{Files: d.Files[:len(d.Files)/2], Faults: d.Faults})
		if !slices.Equal(files, d.Files[:cap(d.Files)]) || !slices.Equal(faults, d.Faults[:cap(d.Faults)]) {
			t.Fatalf("%v, %v became %v, %v", files, faults, d.Files, d.Faults)
		}
	}
}

func TestP16_3_KeepsStayAsTheyWere(t *testing.T) {
	keeps := []api.Keep{keep("b", -3), keep("a", 9), keep("a", 1)}
	was := slices.Clone(keeps)
	disk.Crash(of(file("a", "123", 1), file("b", "", 0)), keeps...)
	if !slices.Equal(keeps, was) {
		t.Errorf("%v", keeps)
	}
}

func TestP16_6_DisksAnsweredShareNoMemory(t *testing.T) {
	a, b := file("a", "12", 1), file("b", "34", 1)
	d := faulty(of(a, b), api.Fault{Name: "c", Kind: 4})
	for i, got := range everyCall(d, "a", "b") {
		for j, other := range everyCall(got, "b", "a") {
			if len(got.Files) > 0 && len(other.Files) > 0 && &got.Files[0] == &other.Files[0] ||
				len(got.Faults) > 0 && len(other.Faults) > 0 && &got.Faults[0] == &other.Faults[0] {
				t.Errorf("calls %d and %d share memory", i, j)
			}
		}
	}
}

func TestP16_1_DisksThatNobodyMade(t *testing.T) {
	for _, d := range []api.Disk{{}, {Files: []api.File{}, Faults: []api.Fault{}}, {Files: make([]api.File, 2), Faults: make([]api.Fault, 2)}} {
		m := modelOf(d)
		wantRead(t, d, m)
		for _, name := range []string{"", "a", strings.Repeat("\xff", 1000)} {
			everyCall(d, name, "")
			everyCall(d, name, name)
		}
		for _, n := range extremes {
			disk.Cut(d, "", n)
			disk.Crash(d, keep("", n))
			for _, synced := range extremes {
				one := faulty(of(file("", "12", synced)), api.Fault{Kind: api.FaultWrite, Short: n})
				m := modelOf(one)
				wantRead(t, one, m)
				got, _, _ := disk.Write(one, "", "345")
				m.write("", "345")
				wantModel(t, "Write", got, m)
				got = disk.Crash(one, keep("", n))
				m = modelOf(one)
				m.crash(keep("", n))
				wantModel(t, "Crash", got, m)
			}
		}
	}
}

func TestP16_3_ManyFilesAndKeeps(t *testing.T) {
	const n = 50000
	var d api.Disk
	var keeps []api.Keep
	names := map[string]int{}
	next := rolled(9)
	for range n {
		name := strings.Repeat("n", int(next()%3)) + string(rune('a'+next()%26)) + thrownText(next)
		names[name]++
		d.Files = append(d.Files, file(name, "12345", 1))
		keeps = append(keeps, keep(name, 2))
	}
	got := disk.Crash(d, keeps...)
	if !slices.Equal(disk.Names(got), slices.Sorted(maps.Keys(names))) {
		t.Error("other names are left")
	}
	for i, f := range got.Files {
		if f != file(d.Files[i].Name, "123", 3) {
			t.Fatalf("%v", f)
		}
	}
	if !disk.Same(got, got) || disk.Same(got, d) {
		t.Error("Same of many files")
	}
	long := strings.Repeat("x", 1<<24)
	one, wrote, e := disk.Write(of(file("a", long, len(long))), "a", long)
	if wrote != len(long) || e != api.OK || disk.Safe(one, "a") != long {
		t.Errorf("%d, %d of a long text", wrote, e)
	}
}
