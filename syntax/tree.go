package syntax

import (
	"slices"

	"jobshell/api"
	"jobshell/words"
)

// children returns the child nodes of a node, for reading.
func children(n api.Node) []api.Node {
	if len(n.Items) == 0 {
		return n.Kids
	}
	kids := slices.Clone(n.Kids)
	for _, item := range n.Items {
		kids = append(kids, item.Body...)
	}
	return kids
}

// visit calls f with a node and all nodes in it, in preorder.
func visit(n api.Node, f func(n api.Node)) {
	f(n)
	for _, kid := range children(n) {
		visit(kid, f)
	}
}

// find returns the node of a path, or nil if there is none.
func find(n *api.Node, path []int) *api.Node {
	for _, i := range path {
		n = child(n, i)
		if n == nil {
			return nil
		}
	}
	return n
}

// child returns the child node of an index, or nil if there is none.
func child(n *api.Node, i int) *api.Node {
	if i < 0 {
		return nil
	}
	if i < len(n.Kids) {
		return &n.Kids[i]
	}
	i -= len(n.Kids)
	for _, item := range n.Items {
		if i < len(item.Body) {
			return &item.Body[i]
		}
		i -= len(item.Body)
	}
	return nil
}

func sameAssign(a, b api.Assign) bool { return a.Name == b.Name && sameWord(a.Value, b.Value) }

func sameWord(a, b api.Word) bool { return words.Same(a.Parts, b.Parts) }

func sameRedir(a, b api.Redir) bool {
	return a.Fd == b.Fd && a.Op == b.Op && sameWord(a.Target, b.Target)
}

func sameItem(a, b api.Item) bool {
	return slices.EqualFunc(a.Patterns, b.Patterns, sameWord) && slices.EqualFunc(a.Body, b.Body, Same)
}

// copyNode returns a node that shares no memory with n.
func copyNode(n api.Node) api.Node {
	n.Assigns = copyAll(n.Assigns, copyAssign)
	n.Words = copyAll(n.Words, copyWord)
	n.Redirs = copyAll(n.Redirs, copyRedir)
	n.Kids = copyAll(n.Kids, copyNode)
	n.Items = copyAll(n.Items, copyItem)
	return n
}

// copyAll returns the copies of the elements of a list.
func copyAll[E any](l []E, copyOf func(e E) E) []E {
	copies := slices.Clone(l)
	for i, e := range copies {
		copies[i] = copyOf(e)
	}
	return copies
}

func copyAssign(a api.Assign) api.Assign {
	a.Value = copyWord(a.Value)
	return a
}

func copyWord(w api.Word) api.Word {
	w.Parts = copyAll(w.Parts, copyPart)
	return w
}

func copyPart(p api.Part) api.Part {
	p.Parts = copyAll(p.Parts, copyPart)
	return p
}

func copyRedir(r api.Redir) api.Redir {
	r.Target = copyWord(r.Target)
	return r
}

func copyItem(i api.Item) api.Item {
	i.Patterns = copyAll(i.Patterns, copyWord)
	i.Body = copyAll(i.Body, copyNode)
	return i
}
