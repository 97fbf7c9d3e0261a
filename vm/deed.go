package vm

import (
	"roster/api"
	"roster/idlist"
)

// deed is what an Op does; of OpFetch and OpTest arg is the place of the constant.
type deed func(m *Machine, arg int)

// deeds stand at the places of their Ops.
func deeds() [api.OpLess + 1]deed {
	return [...]deed{
		api.OpNothing: (*Machine).nothing,
		api.OpAll:     (*Machine).all,
		api.OpFetch:   (*Machine).fetch,
		api.OpTest:    (*Machine).test,
		api.OpAnd:     (*Machine).and,
		api.OpOr:      (*Machine).or,
		api.OpLess:    (*Machine).less,
	}
}

func (m *Machine) ended() bool { return m.at >= len(m.program.Code) }

// advance does the next instruction, of which there must be one.
func (m *Machine) advance() {
	i := m.program.Code[m.at]
	deeds()[i.Op](m, i.Arg)
	m.at++
}

func (m *Machine) nothing(int) { m.push(nil) }

func (m *Machine) all(int) { m.push(m.store.Ids()) }

func (m *Machine) fetch(arg int) {
	// It is asked only what it was found to be able to tell.
	ids, _ := m.store.Fetch(m.program.Consts[arg].Fetch)
	m.push(ids)
}

func (m *Machine) test(arg int) {
	m.push(m.tested(m.pop(), m.program.Consts[arg].Filter))
}

func (m *Machine) and(int) {
	b, a := m.pop(), m.pop()
	m.push(idlist.Meet(a, b))
}

func (m *Machine) or(int) {
	b, a := m.pop(), m.pop()
	m.push(idlist.Union(a, b))
}

func (m *Machine) less(int) {
	b, a := m.pop(), m.pop()
	m.push(idlist.Less(a, b))
}

func (m *Machine) push(ids []uint64) { m.stack = append(m.stack, ids) }

// pop takes the top list, of which code.Check found that there is one.
func (m *Machine) pop() []uint64 {
	last := len(m.stack) - 1
	ids := m.stack[last]
	m.stack[last] = nil // a list that is off the stack is not to be kept
	m.stack = m.stack[:last]
	return ids
}
