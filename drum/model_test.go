package drum_test

import (
	"math/rand"
	"slices"
	"testing"

	"fasti/api"
	"fasti/drum"
)

const letters = "abcdefghijklmnopqrstuvwxyz"

type modelWrite struct {
	sector int
	s      string
}

// model is a drum by the words of the chapter; its contents lack their zeros.
type model struct {
	durable     []string
	pending     []modelWrite
	armed, down bool
	left        int
}

func newModel(n int) *model {
	return &model{durable: make([]string, n)}
}

func (m *model) copied() *model {
	c := *m
	c.durable, c.pending = slices.Clone(m.durable), slices.Clone(m.pending)
	return &c
}

// keep makes the pending writes durable whose indices are kept, and clears the list.
func (m *model) keep(kept func(i int) bool) {
	for i, w := range m.pending {
		if kept(i) {
			m.durable[w.sector] = w.s
		}
	}
	m.pending = nil
}

// counted tells what the power has to say to a call of Write or Settle.
func (m *model) counted() api.Errno {
	switch {
	case m.down:
		return api.ErrDown
	case m.armed && m.left == 0:
		m.down = true
		return api.ErrDown
	case m.armed:
		m.left--
	}
	return api.OK
}

func (m *model) arm(n int) api.Errno {
	switch {
	case n < 0:
		return api.ErrArg
	case m.down:
		return api.ErrDown
	}
	m.armed, m.left = true, n
	return api.OK
}

func (m *model) write(i int, s string) api.Errno {
	if i < 0 || i >= len(m.durable) {
		return api.ErrArg
	}
	e := m.counted()
	if e == api.OK {
		m.pending = append(m.pending, modelWrite{i, s})
	}
	return e
}

func (m *model) settle() api.Errno {
	e := m.counted()
	if e == api.OK {
		m.keep(func(int) bool { return true })
	}
	return e
}

func (m *model) read(i int) (string, api.Errno) {
	if m.down {
		return "", api.ErrDown
	}
	if i < 0 || i >= len(m.durable) {
		return "", api.ErrNone
	}
	s := m.durable[i]
	for _, w := range m.pending {
		if w.sector == i {
			s = w.s
		}
	}
	return full(s), api.OK
}

// same compares all that can be seen of a drum with its model.
func same(t *testing.T, d *drum.Drum, m *model) bool {
	t.Helper()
	ok := d.Size() == len(m.durable) && d.Loose() == len(m.pending) && d.Down() == m.down
	for i := -1; i <= len(m.durable); i++ {
		s, e := d.Read(i)
		want, wantErrno := m.read(i)
		ok = ok && s == want && e == wantErrno
		sure := ""
		if i >= 0 && i < len(m.durable) {
			sure = full(m.durable[i])
		}
		ok = ok && d.Sure(i) == sure
	}
	return ok
}

func randomKeep(random *rand.Rand, pending int) []int {
	var keep []int
	for range random.Intn(pending + 3) {
		keep = append(keep, random.Intn(pending+3)-1)
	}
	return keep
}

// step makes one random call on both, and reports whether they answered the same.
func step(random *rand.Rand, d *drum.Drum, m *model) bool {
	switch k := random.Intn(20); {
	case k < 12:
		i, s := random.Intn(len(m.durable)+2)-1, letters[random.Intn(20):][:random.Intn(6)]
		return d.Write(i, full(s)) == m.write(i, s)
	case k < 15:
		return d.Settle() == m.settle()
	case k < 17:
		n := random.Intn(12) - 1
		return d.Arm(n) == m.arm(n)
	case k < 18:
		keep := randomKeep(random, len(m.pending))
		m.keep(func(i int) bool { return slices.Contains(keep, i) })
		m.armed, m.down = false, false
		return d.Crash(keep) == api.OK
	}
	return d.Write(random.Intn(len(m.durable)), "short") == api.ErrArg
}

// TestAgainstModel makes random calls, and goes on with copies as with the drums themselves.
func TestAgainstModel(t *testing.T) {
	for seed := range 300 {
		random := rand.New(rand.NewSource(int64(seed)))
		n := 1 + random.Intn(5)
		drums, models := []*drum.Drum{newDrum(t, n)}, []*model{newModel(n)}
		for k := range 400 {
			i := random.Intn(len(drums))
			if len(drums) < 4 && random.Intn(40) == 0 {
				drums, models = append(drums, drums[i].Copy()), append(models, models[i].copied())
			}
			if !step(random, drums[i], models[i]) {
				t.Fatalf("seed %d: call %d answers otherwise", seed, k)
			}
			for j := range drums {
				if !same(t, drums[j], models[j]) {
					t.Fatalf("seed %d: after call %d, drum %d has another state", seed, k, j)
				}
			}
		}
	}
}
