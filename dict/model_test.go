package dict_test

import (
	"slices"

	"mews/hash"
)

// model is a table as the document's words say it: its places as lists of keys, the values beside them.
type model[V any] struct {
	seed   uint64
	old    [][]string
	fresh  [][]string
	parted bool
	moved  int
	values map[string]V
}

func newModel[V any](seed uint64) *model[V] {
	return &model[V]{seed: seed, old: make([][]string, 4), values: map[string]V{}}
}

// sizeOf is the size of so many places.
func sizeOf(places [][]string) int {
	size := 0
	for 1<<size < len(places) {
		size++
	}
	return size
}

// place is where a key stands among places.
func (m *model[V]) place(key string, places [][]string) *[]string {
	return &places[hash.Place(hash.Of(m.seed, key), sizeOf(places))]
}

// part begins to change the size by so much.
func (m *model[V]) part(by int) {
	m.parted, m.moved = true, 0
	m.fresh = make([][]string, 1<<(sizeOf(m.old)+by))
}

func (m *model[V]) step() {
	for _, key := range m.old[m.moved] {
		to := m.place(key, m.fresh)
		*to = slices.Insert(*to, 0, key)
	}
	m.old[m.moved] = nil
	m.moved++
	if m.moved == len(m.old) {
		m.old, m.fresh, m.parted = m.fresh, nil, false
	}
}

func (m *model[V]) Step(n int) int {
	made := 0
	for ; made < n && m.parted; made++ {
		m.step()
	}
	return made
}

func (m *model[V]) Put(key string, v V) bool {
	m.Step(1)
	_, there := m.values[key]
	m.values[key] = v
	if there {
		return false
	}
	to := m.place(key, m.old)
	if m.parted {
		to = m.place(key, m.fresh)
	}
	*to = slices.Insert(*to, 0, key)
	if !m.parted && len(m.values) > len(m.old) && sizeOf(m.old) < 16 {
		m.part(1)
	}
	return true
}

func (m *model[V]) Drop(key string) bool {
	m.Step(1)
	if _, there := m.values[key]; !there {
		return false
	}
	delete(m.values, key)
	m.take(key, m.old)
	if m.parted {
		m.take(key, m.fresh)
	}
	if !m.parted && sizeOf(m.old) > 2 && 8*len(m.values) < len(m.old) {
		m.part(-1)
	}
	return true
}

// take takes a key away, if it stands among places.
func (m *model[V]) take(key string, places [][]string) {
	from := m.place(key, places)
	if i := slices.Index(*from, key); i >= 0 {
		*from = slices.Delete(*from, i, i+1)
	}
}

func (m *model[V]) Clear() { *m = *newModel[V](m.seed) }

// state is how it stands.
func (m *model[V]) state() state {
	s := state{len: len(m.values), size: sizeOf(m.old), moved: -1, toward: -1, old: m.old}
	if m.parted {
		s.moved, s.toward, s.fresh = m.moved, sizeOf(m.fresh), m.fresh
	}
	return s
}
