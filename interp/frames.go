package interp

import "dataflow/api"

// enter creates a frame for a function, which the call of a step created, or -1.
func (m *machine) enter(fn, call int, args ...api.Val) {
	vals := make([]api.Val, len(m.u.Funcs[fn].Vars))
	copy(vals, args)
	m.frames = append(m.frames, api.Obs{Func: fn, Frame: m.created, Call: call, Vals: vals})
	m.created++
}

// end ends the latest frame.
func (m *machine) end() { m.frames = m.frames[:len(m.frames)-1] }

// call executes a call of a function with the values of variables.
func (m *machine) call(fn int, args []int) {
	if len(m.frames) == api.MaxFrames {
		m.exec.End = api.EndFrames
		return
	}
	var values []api.Val
	for _, v := range args {
		values = append(values, m.read(v))
	}
	m.enter(fn, len(m.exec.Obs)-1, values...)
}

// leave executes an IReturn.
func (m *machine) leave(i api.Instr) {
	var result api.Val
	if i.A != -1 {
		result = m.read(i.A)
	}
	m.end()
	if len(m.frames) == 0 {
		m.exec.End = api.EndReturn
		return
	}
	m.finish(result)
}

// raise raises the exception at the instruction of the latest frame.
func (m *machine) raise() {
	for len(m.frames) > 0 {
		if catch := m.instruction().Catch; catch != -1 {
			m.latest().Instr = catch
			return
		}
		m.end()
	}
	m.exec.End = api.EndThrow
}
