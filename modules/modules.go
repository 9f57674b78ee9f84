// Package modules helps the tests of all layers to lay modules.
package modules

import (
	"slices"

	"colloquy/api"
	"colloquy/codes"
	"colloquy/tables"
)

// Least is the module of one End, of one template of a halt, and of one start of it.
func Least() api.Module {
	return api.Module{
		Nodes:     []api.Node{{Kind: api.End}},
		Templates: []api.Template{{Code: []api.Insn{{Op: api.OpHalt}}}},
		Starts:    []api.Start{{}},
	}
}

// Roomy is a copy of a module that shares nothing with it, with room behind each of its lists that is not nil.
func Roomy(m api.Module) api.Module {
	m.Nodes, m.Templates, m.Chans, m.Starts = withRoom(m.Nodes), withRoom(m.Templates), withRoom(m.Chans), withRoom(m.Starts)
	m.NodeAt, m.TemplateAt, m.ChanAt, m.StartAt = withRoom(m.NodeAt), withRoom(m.TemplateAt), withRoom(m.ChanAt), withRoom(m.StartAt)
	for i, n := range m.Nodes {
		m.Nodes[i].Next = withRoom(n.Next)
	}
	for i, one := range m.Templates {
		one.Params, one.Code, one.At = withRoom(one.Params), withRoom(one.Code), withRoom(one.At)
		for j, x := range one.Code {
			one.Code[j] = codes.Deep(x)
		}
		m.Templates[i] = one
	}
	for i, s := range m.Starts {
		m.Starts[i].Args = withRoom(s.Args)
	}
	return m
}

// IsRoomEmpty tells whether nothing was laid in the room behind a module's lists.
func IsRoomEmpty(m api.Module) bool {
	if !tables.IsRoomEmpty(m.Nodes) || !isEmptyBehind(m.Templates, sameTemplate) || !isEmptyBehind(m.Starts, sameStart) || !isZeroBehind(m.Chans) {
		return false
	}
	for _, one := range m.Templates {
		if !isZeroBehind(one.Params) || !isEmptyBehind(one.Code, codes.Same) || !isZeroBehind(one.At) {
			return false
		}
		for _, x := range one.Code {
			if !isZeroBehind(x.L) {
				return false
			}
		}
	}
	for _, s := range m.Starts {
		if !isZeroBehind(s.Args) {
			return false
		}
	}
	return isZeroBehind(m.NodeAt) && isZeroBehind(m.TemplateAt) && isZeroBehind(m.ChanAt) && isZeroBehind(m.StartAt)
}

// Same tells whether two modules are the same, also in where their things stand; lists that are nil are like those without elements.
func Same(a, b api.Module) bool {
	sameThings := tables.Same(a.Nodes, b.Nodes) && slices.EqualFunc(a.Templates, b.Templates, sameTemplate) &&
		slices.Equal(a.Chans, b.Chans) && slices.EqualFunc(a.Starts, b.Starts, sameStart)
	return sameThings && slices.Equal(a.NodeAt, b.NodeAt) && slices.Equal(a.TemplateAt, b.TemplateAt) &&
		slices.Equal(a.ChanAt, b.ChanAt) && slices.Equal(a.StartAt, b.StartAt)
}

// sameTemplate tells whether two templates are the same, also in where their instructions stand.
func sameTemplate(a, b api.Template) bool {
	return slices.Equal(a.Params, b.Params) && slices.EqualFunc(a.Code, b.Code, codes.Same) && slices.Equal(a.At, b.At)
}

// sameStart tells whether two starts are the same.
func sameStart(a, b api.Start) bool { return a.Template == b.Template && slices.Equal(a.Args, b.Args) }

// withRoom is a copy of a list, with room behind it.
func withRoom[T any](l []T) []T {
	if l == nil {
		return nil
	}
	return append(make([]T, 0, len(l)+3), l...)
}

// isZeroBehind tells whether nothing was laid in the room behind a list.
func isZeroBehind[T comparable](l []T) bool {
	return isEmptyBehind(l, func(a, b T) bool { return a == b })
}

// isEmptyBehind tells whether what lies in the room behind a list is the same as nothing.
func isEmptyBehind[T any](l []T, same func(a, b T) bool) bool {
	var nothing T
	for _, one := range l[len(l):cap(l)] {
		if !same(one, nothing) {
			return false
		}
	}
	return true
}
