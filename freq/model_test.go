package freq_test

import (
	"slices"

	"mews/freq"
)

// calls are a book's: those of the package, and of the model.
type calls interface {
	Touch(key string) int
	Drop(key string) bool
	Count(key string) int
	Halve() int
	Least() (string, bool)
	Len() int
	All() []string
}

var _ = []calls{new(freq.Book), new(model)}

// model is a book as the document's words say it: of each key that is there its count, and by which call it was touched last.
type model struct {
	now  int
	keys map[string]uses
}

type uses struct{ count, last int }

func (m *model) Touch(key string) int {
	if m.keys == nil {
		m.keys = map[string]uses{}
	}
	m.now++
	m.keys[key] = uses{min(m.keys[key].count+1, 255), m.now}
	return m.keys[key].count
}

func (m *model) Drop(key string) bool {
	_, had := m.keys[key]
	delete(m.keys, key)
	return had
}

func (m *model) Count(key string) int { return m.keys[key].count }

func (m *model) Halve() int {
	less := 0
	for _, key := range m.All() {
		x := m.keys[key]
		switch {
		case x.count == 1:
			continue
		case x.count%2 == 1:
			x.count--
		}
		x.count /= 2
		m.keys[key] = x
		less++
	}
	return less
}

func (m *model) Least() (string, bool) {
	all := m.All()
	if len(all) == 0 {
		return "", false
	}
	return all[0], true
}

func (m *model) Len() int { return len(m.keys) }

func (m *model) All() []string {
	var all []string
	for key := range m.keys {
		all = append(all, key)
	}
	slices.SortFunc(all, func(a, b string) int {
		if x, y := m.keys[a], m.keys[b]; x.count == y.count {
			return x.last - y.last
		} else {
			return x.count - y.count
		}
	})
	return all
}
