// Package modules helps the tests of all layers to lay modules.
package modules

import (
	"slices"

	"colloquy/api"
	"colloquy/codes"
	"colloquy/lists"
	"colloquy/tables"
)

// Least is the module of one End, of one template of a halt, and of one start of it.
func Least() api.Module {
	return api.Module{
		Nodes:     []api.Node{{Kind: api.End}},
		Templates: []api.Template{{Code: []api.Insn{{Op: api.OpHalt}}}},
		Starts:    []api.Start{{}},
	}
}

// Asks is a parameter that is an endpoint of a node's type, at an Offset.
func Asks(node, offset int) api.Param {
	return api.Param{IsChan: true, Type: api.Type{Node: node, Offset: offset}}
}

// Asking is a module of mixed nodes, and of templates of mixed parameters and without codes; all is well with both.
func Asking(r *tables.Row) api.Module {
	m := api.Module{Nodes: tables.Mixed(r, 1+r.Below(8), 8, 8)}
	for range r.Below(4) {
		var params []api.Param
		for range r.Below(api.MaxParams + 1) {
			p := Asks(r.Below(len(m.Nodes)), r.Below(30))
			if r.Below(3) == 0 {
				p = api.Param{} // a word
			}
			params = append(params, p)
		}
		m.Templates = append(m.Templates, api.Template{Params: params})
	}
	return m
}

// Roomy is a copy of a module that shares nothing with it, with room behind each of its lists that is not nil.
func Roomy(m api.Module) api.Module {
	m.Nodes, m.Templates, m.Chans, m.Starts = lists.Roomy(m.Nodes), lists.Roomy(m.Templates), lists.Roomy(m.Chans), lists.Roomy(m.Starts)
	m.NodeAt, m.TemplateAt, m.ChanAt, m.StartAt = lists.Roomy(m.NodeAt), lists.Roomy(m.TemplateAt), lists.Roomy(m.ChanAt), lists.Roomy(m.StartAt)
	for i, n := range m.Nodes {
		m.Nodes[i].Next = lists.Roomy(n.Next)
	}
	for i, one := range m.Templates {
		one.Params, one.Code, one.At = lists.Roomy(one.Params), lists.Roomy(one.Code), lists.Roomy(one.At)
		for j, x := range one.Code {
			one.Code[j] = codes.Deep(x)
		}
		m.Templates[i] = one
	}
	for i, s := range m.Starts {
		m.Starts[i].Args = lists.Roomy(s.Args)
	}
	return m
}

// IsRoomEmpty tells whether nothing was laid in the room behind a module's lists.
func IsRoomEmpty(m api.Module) bool {
	if !tables.IsRoomEmpty(m.Nodes) || !lists.IsRoomEmpty(m.Templates, sameTemplate) || !lists.IsRoomEmpty(m.Starts, sameStart) || !lists.IsRoomZero(m.Chans) {
		return false
	}
	for _, one := range m.Templates {
		if !lists.IsRoomZero(one.Params) || !lists.IsRoomEmpty(one.Code, codes.Same) || !lists.IsRoomZero(one.At) {
			return false
		}
		for _, x := range one.Code {
			if !lists.IsRoomZero(x.L) {
				return false
			}
		}
	}
	for _, s := range m.Starts {
		if !lists.IsRoomZero(s.Args) {
			return false
		}
	}
	return lists.IsRoomZero(m.NodeAt) && lists.IsRoomZero(m.TemplateAt) && lists.IsRoomZero(m.ChanAt) && lists.IsRoomZero(m.StartAt)
}

// Same tells whether two modules are the same, also in where their things stand; lists that are nil are like those without elements.
func Same(a, b api.Module) bool {
	sameThings := tables.Same(a.Nodes, b.Nodes) && slices.EqualFunc(a.Templates, b.Templates, sameTemplate) &&
		slices.Equal(a.Chans, b.Chans) && slices.EqualFunc(a.Starts, b.Starts, sameStart)
	return sameThings && slices.Equal(a.NodeAt, b.NodeAt) && slices.Equal(a.TemplateAt, b.TemplateAt) &&
		slices.Equal(a.ChanAt, b.ChanAt) && slices.Equal(a.StartAt, b.StartAt)
}

// sameTemplate tells whether two templates are the same, also in where their instructions stand.
func sameTemplate(a, b api.Template) bool {
	return slices.Equal(a.Params, b.Params) && slices.EqualFunc(a.Code, b.Code, codes.Same) && slices.Equal(a.At, b.At)
}

// sameStart tells whether two starts are the same.
func sameStart(a, b api.Start) bool { return a.Template == b.Template && slices.Equal(a.Args, b.Args) }
