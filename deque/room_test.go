package deque

import "testing"

// wantTidy looks at a list's room: nothing that went is held on to, and few things have no great room.
func wantTidy(t *testing.T, d *List[*int]) {
	t.Helper()
	for i := d.count; i < len(d.room); i++ {
		if *d.slot(i) != nil {
			t.Fatalf("of %d things in a room of %d: there is one behind the last one", d.count, len(d.room))
		}
	}
	for i := range d.count {
		if *d.slot(i) == nil {
			t.Fatalf("of %d things in a room of %d: there is none at %d", d.count, len(d.room), i)
		}
	}
	if n := len(d.room); n > max(4*d.count, 8) || n > MaxLong || n < d.count {
		t.Fatalf("%d things have a room of %d", d.count, n)
	}
}

// What is kept is what is there.
func TestP9_1_NothingThatWentIsKept(t *testing.T) {
	v := 1
	for _, front := range []bool{true, false} {
		d := New[*int]()
		for n := range 100 {
			for range n {
				d.Push(front, &v)
				d.Push(n%3 == 0, &v)
				wantTidy(t, d)
				d.Insert(d.Len()/3, &v)
				wantTidy(t, d)
				d.Remove(n % d.Len())
				wantTidy(t, d)
			}
			for i := 0; d.Len() > n%5; i++ {
				d.Pop(i%3 > 0)
				wantTidy(t, d)
			}
		}
	}
}

func TestP9_3_NothingIsKeptBesideWhatKeepLeaves(t *testing.T) {
	v := 1
	for n := range 40 {
		for from := range n + 1 {
			for to := -1; to < n; to++ {
				d := New[*int]()
				for i := range n {
					d.Push(i%3 == 0, &v)
				}
				d.Keep(from, to)
				wantTidy(t, d)
				d.Push(true, &v)
				wantTidy(t, d)
			}
		}
	}
	d := New(make([]*int, MaxLong)...)
	for i := range MaxLong {
		d.Set(i, &v)
	}
	wantTidy(t, d)
	for n := MaxLong; n > 0; n /= 3 {
		d.Keep(n/4, n/4+n/3-1)
		wantTidy(t, d)
	}
}

// A list that has more than half of what it may have gets no more room than it may fill.
func TestP9_1_NoRoomBeyondTheLongest(t *testing.T) {
	v := 1
	l := make([]*int, MaxLong/2+1)
	for i := range l {
		l[i] = &v
	}
	d := New(l...)
	d.Push(true, &v)
	wantTidy(t, d)
}
