package timer_test

import (
	"bytes"
	"slices"

	"mews/api"
	"mews/timer"
)

// calls are a timer's: those of the package, and of the model.
type calls interface {
	Set(key string, at int64) bool
	Drop(key string) bool
	At(key string) (int64, bool)
	First() (api.Timed, bool)
	Due(now int64) []string
	Len() int
	All() []api.Timed
}

var _ = []calls{new(timer.Timer), new(model)}

// model is a timer as the document's words say it: its keys in a row, in their order.
type model struct{ l []api.Timed }

// order tells which of two keys is ahead (below 0: a): by times, of one time by keys, byte by byte.
func order(a, b api.Timed) int {
	switch {
	case a.At < b.At:
		return -1
	case a.At > b.At:
		return 1
	}
	return bytes.Compare([]byte(a.Key), []byte(b.Key))
}

func (m *model) place(key string) int {
	return slices.IndexFunc(m.l, func(x api.Timed) bool { return x.Key == key })
}

func (m *model) Set(key string, at int64) bool {
	had := m.Drop(key)
	m.l = append(m.l, api.Timed{Key: key, At: at})
	slices.SortFunc(m.l, order)
	return !had
}

func (m *model) Drop(key string) bool {
	i := m.place(key)
	if i < 0 {
		return false
	}
	m.l = slices.Delete(m.l, i, i+1)
	return true
}

func (m *model) At(key string) (int64, bool) {
	i := m.place(key)
	if i < 0 {
		return 0, false
	}
	return m.l[i].At, true
}

func (m *model) First() (api.Timed, bool) {
	if len(m.l) == 0 {
		return api.Timed{}, false
	}
	return m.l[0], true
}

func (m *model) Due(now int64) []string {
	var due []string
	for len(m.l) > 0 && m.l[0].At <= now {
		due = append(due, m.l[0].Key)
		m.l = slices.Delete(m.l, 0, 1)
	}
	return due
}

func (m *model) Len() int { return len(m.l) }

func (m *model) All() []api.Timed { return slices.Clone(m.l) }
