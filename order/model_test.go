package order_test

import (
	"slices"

	"mews/order"
)

// calls are an order's: those of the package, and of the model.
type calls interface {
	Touch(key string) bool
	Drop(key string) bool
	Has(key string) bool
	Oldest() (string, bool)
	Walk(yield func(string) bool)
	Len() int
	All() []string
}

var _ = []calls{new(order.Order), new(model)}

// model is an order as P12.3 says it: of each key that is there, by which call it was touched last.
type model struct {
	now  int
	last map[string]int
}

func (m *model) Touch(key string) bool {
	had := m.Has(key)
	if m.last == nil {
		m.last = map[string]int{}
	}
	m.now++
	m.last[key] = m.now
	return !had
}

func (m *model) Drop(key string) bool {
	had := m.Has(key)
	delete(m.last, key)
	return had
}

func (m *model) Has(key string) bool { return m.last[key] > 0 }

func (m *model) Oldest() (string, bool) {
	oldest, at := "", 0
	for key, last := range m.last {
		if at == 0 || last < at {
			oldest, at = key, last
		}
	}
	return oldest, at > 0
}

func (m *model) Walk(yield func(string) bool) {
	for _, key := range m.All() {
		if !yield(key) {
			break
		}
	}
}

func (m *model) Len() int { return len(m.last) }

func (m *model) All() []string {
	var all []string
	for key := range m.last {
		all = append(all, key)
	}
	slices.SortFunc(all, func(a, b string) int { return m.last[a] - m.last[b] })
	return all
}
