package skip_test

import (
	"bytes"
	"slices"

	"mews/api"
	"mews/skip"
)

// model is a list as the document's words say it: its pairs in a row, in their order.
type model struct{ l []api.Scored }

// order tells which of two pairs is ahead (below 0: a): by scores, of one score by members, byte by byte.
func order(a, b api.Scored) int {
	switch {
	case a.Score < b.Score:
		return -1
	case a.Score > b.Score:
		return 1
	}
	return bytes.Compare([]byte(a.Member), []byte(b.Member))
}

func (m *model) Put(x api.Scored) bool {
	if slices.Contains(m.l, x) {
		return false
	}
	m.l = append(m.l, x)
	slices.SortFunc(m.l, order)
	return true
}

func (m *model) Drop(x api.Scored) bool {
	i := slices.Index(m.l, x)
	if i < 0 {
		return false
	}
	m.l = slices.Delete(m.l, i, i+1)
	return true
}

func (m *model) Len() int { return len(m.l) }

func (m *model) Rank(x api.Scored) int { return slices.Index(m.l, x) }

func (m *model) At(rank int) (api.Scored, bool) {
	for r, x := range m.l {
		if r == rank {
			return x, true
		}
	}
	return api.Scored{}, false
}

func (m *model) Below(score int64, open bool) int {
	n := 0
	for _, x := range m.l {
		if x.Score < score || open && x.Score <= score {
			n++
		}
	}
	return n
}

func (m *model) Ahead(x api.Scored) int {
	n := 0
	for _, y := range m.l {
		if order(y, x) < 0 {
			n++
		}
	}
	return n
}

func (m *model) Cut(from, to int) []api.Scored {
	var l []api.Scored
	for r, x := range m.l {
		if from <= r && r <= to {
			l = append(l, x)
		}
	}
	return l
}

// calls are a list's: those of the package, and of the model.
type calls interface {
	Put(x api.Scored) bool
	Drop(x api.Scored) bool
	Len() int
	Rank(x api.Scored) int
	At(rank int) (api.Scored, bool)
	Below(score int64, open bool) int
	Ahead(x api.Scored) int
	Cut(from, to int) []api.Scored
}

// together are some lists and the model, in all of which the same calls are made.
type together struct {
	model
	lists []*skip.List
}

// made are empty lists, one a seed, and the zero one.
func made(seeds ...uint64) *together {
	g := &together{lists: []*skip.List{new(skip.List)}}
	for _, seed := range seeds {
		g.lists = append(g.lists, skip.New(seed))
	}
	return g
}
