package code

import "roster/api"

// opcode is what is known of an Op: its word, how many lists it needs on the stack, how many it leaves in their place, whether Arg names a constant.
type opcode struct {
	word   string
	needs  int
	leaves int
	names  bool
}

var opcodes = [...]opcode{
	api.OpNothing: {"nothing", 0, 1, false},
	api.OpAll:     {"all", 0, 1, false},
	api.OpFetch:   {"fetch", 0, 1, true},
	api.OpTest:    {"test", 1, 1, true},
	api.OpAnd:     {"and", 2, 1, false},
	api.OpOr:      {"or", 2, 1, false},
	api.OpLess:    {"less", 2, 1, false},
}

// looked goes over a program place by place, and tells what is wrong first and where; if nothing is, how many lists are on the stack at most.
func looked(p api.Program) (wrong api.Errno, at, depth int) {
	if len(p.Code) > api.MaxCode || len(p.Consts) > api.MaxCode {
		return api.ErrLong, 0, 0
	}
	for _, c := range p.Consts {
		if !mayBe(c) {
			return api.ErrCode, at, 0
		}
		at++
	}
	lists := 0
	for _, i := range p.Code {
		if !isInstr(i, p.Consts) {
			return api.ErrCode, at, 0
		}
		op := opcodes[i.Op]
		if lists < op.needs {
			return api.ErrStack, at, 0
		}
		lists += op.leaves - op.needs
		depth = max(depth, lists)
		at++
	}
	if lists != 1 {
		return api.ErrStack, at, 0
	}
	return api.OK, 0, depth
}

func isInstr(i api.Instr, consts []api.Const) bool {
	switch {
	case int(i.Op) >= len(opcodes):
		return false
	case !opcodes[i.Op].names:
		return i.Arg == 0
	}
	return 0 <= i.Arg && i.Arg < len(consts) && consts[i.Arg].Test == (i.Op == api.OpTest)
}
