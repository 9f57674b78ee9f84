package module

import (
	"colloquy/api"
	"colloquy/insn"
	"colloquy/leb"
	"colloquy/octets"
)

// readTypes reads section 1.
func readTypes(r *octets.Reader, m *api.Module) {
	m.Nodes = readAll(r, 0, api.MaxNodes, func() api.Node {
		m.NodeAt = append(m.NodeAt, r.Place())
		return readNode(r)
	})
}

// readTemplates reads section 2.
func readTemplates(r *octets.Reader, m *api.Module) {
	m.Templates = readAll(r, 0, api.MaxTemplates, func() api.Template {
		m.TemplateAt = append(m.TemplateAt, r.Place())
		return readTemplate(r)
	})
}

// readBoot reads section 3.
func readBoot(r *octets.Reader, m *api.Module) {
	m.Chans = readAll(r, 0, api.MaxBootChans, func() api.Type {
		m.ChanAt = append(m.ChanAt, r.Place())
		return readType(r)
	})
	m.Starts = readAll(r, 0, api.MaxStarts, func() api.Start {
		m.StartAt = append(m.StartAt, r.Place())
		return readStart(r)
	})
}

// readNode reads a node.
func readNode(r *octets.Reader) api.Node {
	n := api.Node{Kind: readNumber(r, api.LastKind)}
	switch n.Kind {
	case api.Alias:
		n.Next = []api.Edge{readEdge(r)}
	case api.Send, api.Recv:
		n.Prio = readNumber(r, api.MaxPrio)
		n.IsChan = readMark(r)
		if n.IsChan {
			n.Pay = readEdge(r)
		}
		n.Next = []api.Edge{readEdge(r)}
	case api.Select, api.Branch:
		n.Prio = readNumber(r, api.MaxPrio)
		n.Next = readAll(r, 1, api.MaxLabels, func() api.Edge { return readEdge(r) })
	}
	return n
}

// readEdge reads an edge.
func readEdge(r *octets.Reader) api.Edge {
	to := readNumber(r, mostNode)
	return api.Edge{To: to, Shift: readNumber(r, api.MaxShift)}
}

// readTemplate reads a template.
func readTemplate(r *octets.Reader) api.Template {
	var t api.Template
	t.Params = readAll(r, 0, api.MaxParams, func() api.Param { return readParam(r) })
	t.Code = readAll(r, 1, api.MaxCode, func() api.Insn {
		t.At = append(t.At, r.Place())
		return must(insn.Read(r))
	})
	return t
}

// readParam reads a parameter.
func readParam(r *octets.Reader) api.Param {
	if !readMark(r) {
		return api.Param{}
	}
	return api.Param{IsChan: true, Type: readType(r)}
}

// readType reads a type.
func readType(r *octets.Reader) api.Type {
	node := readNumber(r, mostNode)
	return api.Type{Node: node, Offset: readNumber(r, mostOffset)}
}

// readStart reads a start.
func readStart(r *octets.Reader) api.Start {
	template := readNumber(r, mostTemplate)
	args := readAll(r, 0, api.MaxParams, func() api.Arg { return readArg(r) })
	return api.Start{Template: template, Args: args}
}

// readArg reads an argument.
func readArg(r *octets.Reader) api.Arg {
	if !readMark(r) {
		return api.Arg{Word: must(leb.S(r))}
	}
	return api.Arg{IsChan: true, End: readNumber(r, mostEnd)}
}

// readAll reads how many things a list has, and each of them.
func readAll[T any](r *octets.Reader, least, most int, read func() T) []T {
	at := r.Place()
	count := readNumber(r, most)
	if count < least {
		giveUpWith(&api.Fault{Code: api.ErrArg, At: at})
	}
	var list []T
	for range count {
		list = append(list, read())
	}
	return list
}

// readMark reads whether something is so: 1, if it is, else 0.
func readMark(r *octets.Reader) bool { return readNumber(r, 1) == 1 }

// readNumber reads a number.
func readNumber(r *octets.Reader, most int) int { return must(leb.Small(r, most)) }

// must answers what was asked for, but gives up with a fault.
func must[T any](asked T, err error) T {
	giveUpWith(err)
	return asked
}

// giveUpWith gives up, if there is a fault.
func giveUpWith(err error) {
	if err != nil {
		panic(err)
	}
}
