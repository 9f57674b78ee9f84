package module

import (
	"colloquy/api"
	"colloquy/insn"
	"colloquy/leb"
	"colloquy/octets"
)

// textOf is a section's text, as it is laid.
func textOf(put func(w *octets.Writer)) string {
	w := octets.NewWriter()
	put(w)
	return w.Text()
}

// putTypes lays section 1.
func putTypes(w *octets.Writer, m api.Module) {
	putAll(w, m.Nodes, 0, api.MaxNodes, func(n api.Node) { putNode(w, n) })
}

// putTemplates lays section 2.
func putTemplates(w *octets.Writer, m api.Module) {
	putAll(w, m.Templates, 0, api.MaxTemplates, func(t api.Template) {
		putAll(w, t.Params, 0, api.MaxParams, func(p api.Param) { putParam(w, p) })
		putAll(w, t.Code, 1, api.MaxCode, func(x api.Insn) { refuse(insn.Put(w, x) != api.OK) })
	})
}

// putBoot lays section 3.
func putBoot(w *octets.Writer, m api.Module) {
	putAll(w, m.Chans, 0, api.MaxBootChans, func(t api.Type) { putType(w, t) })
	putAll(w, m.Starts, 0, api.MaxStarts, func(s api.Start) {
		putNumber(w, s.Template, mostTemplate)
		putAll(w, s.Args, 0, api.MaxParams, func(a api.Arg) { putArg(w, a) })
	})
}

// putNode lays a node.
func putNode(w *octets.Writer, n api.Node) {
	refuse(hasMore(n))
	putNumber(w, n.Kind, api.LastKind)
	switch n.Kind {
	case api.Alias:
		putOnly(w, n.Next)
	case api.Send, api.Recv:
		putNumber(w, n.Prio, api.MaxPrio)
		putMark(w, n.IsChan)
		if n.IsChan {
			putEdge(w, n.Pay)
		}
		putOnly(w, n.Next)
	case api.Select, api.Branch:
		putNumber(w, n.Prio, api.MaxPrio)
		putAll(w, n.Next, 1, api.MaxLabels, func(e api.Edge) { putEdge(w, e) })
	}
}

// hasMore tells whether a node has something that is not laid of it, as its kind has no such thing.
func hasMore(n api.Node) bool {
	hands := n.Kind == api.Send || n.Kind == api.Recv
	acts := hands || n.Kind == api.Select || n.Kind == api.Branch
	goesOn := acts || n.Kind == api.Alias
	return !acts && n.Prio != 0 || !hands && n.IsChan || !n.IsChan && n.Pay != (api.Edge{}) || !goesOn && len(n.Next) > 0
}

// putOnly lays the edge that is the only one of its list: how many there are is not laid.
func putOnly(w *octets.Writer, list []api.Edge) {
	refuse(len(list) != 1)
	putEdge(w, list[0])
}

// putEdge lays an edge.
func putEdge(w *octets.Writer, e api.Edge) {
	putNumber(w, e.To, mostNode)
	putNumber(w, e.Shift, api.MaxShift)
}

// putParam lays a parameter.
func putParam(w *octets.Writer, p api.Param) {
	putMark(w, p.IsChan)
	if p.IsChan {
		putType(w, p.Type)
		return
	}
	refuse(p.Type != api.Type{})
}

// putType lays a type.
func putType(w *octets.Writer, t api.Type) {
	putNumber(w, t.Node, mostNode)
	putNumber(w, t.Offset, mostOffset)
}

// putArg lays an argument.
func putArg(w *octets.Writer, a api.Arg) {
	putMark(w, a.IsChan)
	if a.IsChan {
		refuse(a.Word != 0)
		putNumber(w, a.End, mostEnd)
		return
	}
	refuse(a.End != 0)
	leb.PutS(w, a.Word)
}

// putAll lays how many things a list has, and each of them.
func putAll[T any](w *octets.Writer, list []T, least, most int, put func(one T)) {
	refuse(len(list) < least)
	putNumber(w, len(list), most)
	for _, one := range list {
		put(one)
	}
}

// putMark lays 1, if something is so, else 0.
func putMark(w *octets.Writer, isSo bool) {
	mark := 0
	if isSo {
		mark = 1
	}
	putNumber(w, mark, 1)
}

// putNumber lays a number.
func putNumber(w *octets.Writer, n, most int) {
	refuse(n < 0 || n > most)
	leb.PutU(w, uint64(n))
}

// refuse gives up, if something can't be laid.
func refuse(wrong bool) {
	if wrong {
		panic(api.ErrArg)
	}
}
