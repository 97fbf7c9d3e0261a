package vm

import (
	"slices"
	"sync"

	"roster/api"
	"roster/filter"
)

// stretchLen is how many numbers a worker takes at once: few enough that none is idle while others have much left, many enough that the taking costs little beside the tests.
const stretchLen = 16

// stretch is a piece of a list, and its place among the pieces.
type stretch struct {
	place int
	ids   []uint64
}

// tested are those of the numbers of whose records the filter is Yes. What a stretch gives is laid down at its own place: so it shows nowhere which worker took it, and when.
func (m *Machine) tested(ids []uint64, f api.Filter) []uint64 {
	stretches := slices.Collect(slices.Chunk(ids, stretchLen))
	found := make([][]uint64, len(stretches))
	work := make(chan stretch)
	var group sync.WaitGroup
	for range min(m.workers, len(stretches)) {
		group.Add(1)
		go func() {
			defer group.Done()
			for s := range work {
				found[s.place] = m.yes(s.ids, f)
			}
		}()
	}
	for place, ids := range stretches {
		work <- stretch{place, ids}
	}
	close(work)
	group.Wait()
	return slices.Concat(found...)
}

// yes only looks at the machine: workers do so at the same time.
func (m *Machine) yes(ids []uint64, f api.Filter) []uint64 {
	var out []uint64
	for _, id := range ids {
		r, wrong := m.store.Get(id)
		if wrong == api.OK && filter.Says(m.store.Schema(), f, r) == api.Yes {
			out = append(out, id)
		}
	}
	return out
}
