package deque_test

import (
	"slices"

	"mews/deque"
)

// model is a list as the document's words say it: its things in a row.
type model[V any] struct{ l []V }

func newModel[V any](l ...V) *model[V] {
	return &model[V]{slices.Clone(l[:min(len(l), 1048576)])}
}

func (m *model[V]) Len() int { return len(m.l) }

func (m *model[V]) full() bool { return len(m.l) >= 1048576 }

func (m *model[V]) Push(front bool, v V) bool {
	if front {
		return m.Insert(0, v)
	}
	return m.Insert(len(m.l), v)
}

func (m *model[V]) Pop(front bool) (V, bool) {
	i := -1
	if front {
		i = 0
	}
	v, ok := m.At(i)
	m.Remove(i)
	return v, ok
}

// place is the one of those from 0 on that i tells; -1: there is none.
func (m *model[V]) place(i int) int {
	for place := range m.l {
		if i == place || i == place-len(m.l) {
			return place
		}
	}
	return -1
}

func (m *model[V]) At(i int) (V, bool) {
	if place := m.place(i); place >= 0 {
		return m.l[place], true
	}
	return *new(V), false
}

func (m *model[V]) Set(i int, v V) bool {
	place := m.place(i)
	if place >= 0 {
		m.l[place] = v
	}
	return place >= 0
}

func (m *model[V]) Insert(i int, v V) bool {
	if m.full() || i != len(m.l) && (i < 0 || m.place(i) < 0) {
		return false
	}
	m.l = slices.Insert(m.l, i, v)
	return true
}

func (m *model[V]) Remove(i int) bool {
	place := m.place(i)
	if place >= 0 {
		m.l = slices.Delete(m.l, place, place+1)
	}
	return place >= 0
}

// Cut goes through all places: those that are not ahead of from, nor behind to, count.
func (m *model[V]) Cut(from, to int) []V {
	if from < 0 {
		from = len(m.l) + from
	}
	if to < 0 {
		to = len(m.l) + to
	}
	var l []V
	for place, v := range m.l {
		if from <= place && place <= to {
			l = append(l, v)
		}
	}
	return l
}

func (m *model[V]) Keep(from, to int) { m.l = m.Cut(from, to) }

func (m *model[V]) All() []V { return slices.Clone(m.l) }

// calls are a list's: those of the package, of the model, and of a list that is read from its other end.
type calls[V any] interface {
	Len() int
	Push(front bool, v V) bool
	Pop(front bool) (V, bool)
	At(i int) (V, bool)
	Set(i int, v V) bool
	Insert(i int, v V) bool
	Remove(i int) bool
	Cut(from, to int) []V
	Keep(from, to int)
	All() []V
}

// mirror is a list that is read from its other end.
type mirror[V any] struct{ d *deque.List[V] }

// turned is a list's things from the last one on.
func turned[V any](l []V) []V {
	l = slices.Clone(l)
	slices.Reverse(l)
	return l
}

func (m mirror[V]) Len() int                  { return m.d.Len() }
func (m mirror[V]) Push(front bool, v V) bool { return m.d.Push(!front, v) }
func (m mirror[V]) Pop(front bool) (V, bool)  { return m.d.Pop(!front) }
func (m mirror[V]) At(i int) (V, bool)        { return m.d.At(-1 - i) }
func (m mirror[V]) Set(i int, v V) bool       { return m.d.Set(-1-i, v) }
func (m mirror[V]) Remove(i int) bool         { return m.d.Remove(-1 - i) }
func (m mirror[V]) Cut(from, to int) []V      { return turned(m.d.Cut(-1-to, -1-from)) }
func (m mirror[V]) Keep(from, to int)         { m.d.Keep(-1-to, -1-from) }
func (m mirror[V]) All() []V                  { return turned(m.d.All()) }

// Insert is ahead of a place what is behind it from the other end. Places below 0, which none is, stay so.
func (m mirror[V]) Insert(i int, v V) bool {
	if i < 0 {
		return m.d.Insert(i, v)
	}
	return m.d.Insert(m.d.Len()-i, v)
}
