package syntax

import (
	"math"
	"slices"
	"strings"

	"jobshell/api"
	"jobshell/chars"
	"jobshell/head"
	"jobshell/source"
	"jobshell/words"
)

// Sets of kinds of nodes, each kind a bit.
const (
	lists     = 1 << api.NList
	compounds = 1<<api.NGroup | 1<<api.NSub | 1<<api.NIf | 1<<api.NWhile | 1<<api.NUntil | 1<<api.NFor | 1<<api.NCase
	commands  = compounds | 1<<api.NSimple | 1<<api.NFunc
	pipelines = commands | 1<<api.NPipe | 1<<api.NNot
	andOrs    = pipelines | 1<<api.NAnd | 1<<api.NOr
)

// Sets of fields of nodes besides Kids, each field a bit.
const (
	hasName = 1 << iota
	hasAll
	hasAssigns
	hasWords
	hasRedirs
	hasItems
)

// shape says which fields the nodes of a kind can have, how many kids, and of which kinds the first one and the others are.
type shape struct{ fields, least, most, first, others int }

// shapes are the shapes of nodes, by their kinds.
var shapes = [16]shape{
	api.NSimple: {fields: hasAssigns | hasWords | hasRedirs},
	api.NPipe:   {0, 2, math.MaxInt, commands, commands},
	api.NNot:    {0, 1, 1, commands | 1<<api.NPipe, 0},
	api.NAnd:    {0, 2, 2, andOrs, pipelines},
	api.NOr:     {0, 2, 2, andOrs, pipelines},
	api.NList:   {0, 1, math.MaxInt, andOrs | 1<<api.NBack, andOrs | 1<<api.NBack},
	api.NBack:   {0, 1, 1, andOrs, 0},
	api.NGroup:  {hasRedirs, 1, 1, lists, 0},
	api.NSub:    {hasRedirs, 1, 1, lists, 0},
	api.NIf:     {hasRedirs, 2, 3, lists, lists},
	api.NWhile:  {hasRedirs, 2, 2, lists, lists},
	api.NUntil:  {hasRedirs, 2, 2, lists, lists},
	api.NFor:    {hasName | hasAll | hasWords | hasRedirs, 1, 1, lists, 0},
	api.NCase:   {fields: hasWords | hasRedirs | hasItems},
	api.NFunc:   {hasName, 1, 1, compounds, 0},
}

// isWellFormed reports whether a node and all nodes in it are well formed.
func isWellFormed(n api.Node) bool {
	ok := true
	visit(n, func(n api.Node) { ok = ok && hasShape(n) && hasContents(n) })
	return ok
}

// hasShape reports whether a node has the kids of its kind, and no fields that its kind does not have.
func hasShape(n api.Node) bool {
	if n.Kind <= 0 || n.Kind >= len(shapes) {
		return false
	}
	s := shapes[n.Kind]
	if fields(n)&^s.fields != 0 || len(n.Kids) < s.least || len(n.Kids) > s.most {
		return false
	}
	permitted := s.first
	for _, kid := range n.Kids {
		if !isOneOf(kid, permitted) {
			return false
		}
		permitted = s.others
	}
	return true
}

// isOneOf reports whether the kind of a node is in a set.
func isOneOf(n api.Node, kinds int) bool {
	return n.Kind > 0 && n.Kind < len(shapes) && kinds>>n.Kind&1 != 0
}

// fields returns the set of fields of a node that are not empty.
func fields(n api.Node) int {
	set := 0
	for i, has := range [6]bool{n.Name != "", n.All, len(n.Assigns) > 0, len(n.Words) > 0, len(n.Redirs) > 0, len(n.Items) > 0} {
		if has {
			set |= 1 << i
		}
	}
	return set
}

// hasContents reports whether the fields of a node are as its kind requires; it has the shape of its kind.
func hasContents(n api.Node) bool {
	ok := true
	switch n.Kind {
	case api.NSimple:
		ok = fields(n) != 0 && (len(n.Words) == 0 || head.Begins(n.Words[0].Parts))
	case api.NFor:
		ok = chars.Name(n.Name) && !(n.All && len(n.Words) > 0)
	case api.NCase:
		ok = len(n.Words) == 1 && all(n.Items, isItem)
	case api.NFunc:
		ok = chars.Name(n.Name)
	}
	return ok && all(n.Assigns, isAssign) && all(n.Words, isWord) && all(n.Redirs, isRedir)
}

// all reports whether all elements of a list are as required.
func all[E any](l []E, is func(e E) bool) bool {
	return !slices.ContainsFunc(l, func(e E) bool { return !is(e) })
}

func isItem(i api.Item) bool {
	return len(i.Patterns) > 0 && all(i.Patterns, isWord) && len(i.Body) <= 1 && all(i.Body, isList)
}

func isList(n api.Node) bool { return n.Kind == api.NList }

func isAssign(a api.Assign) bool {
	return chars.Name(a.Name) && words.Valid(a.Value.Parts) == api.OK
}

// isWord reports whether a word is one in a program.
func isWord(w api.Word) bool {
	s, errno := words.Show(w.Parts)
	return errno == api.OK && s != "" && !strings.HasPrefix(s, "#")
}

func isRedir(r api.Redir) bool {
	switch {
	case r.Fd < 0 || r.Fd > api.MaxNumber || r.Op < api.RIn || r.Op > api.RHere:
		return false
	case r.Op == api.RHere:
		return isContents(r.Target.Parts)
	}
	return isWord(r.Target)
}

// isContents reports whether parts are the contents of a here-document.
func isContents(l []api.Part) bool {
	if len(l) == 1 && l[0].Kind == api.PQuoted {
		return strings.HasSuffix(l[0].Text, "\n") && words.Same(l, []api.Part{{Kind: api.PQuoted, Text: l[0].Text}})
	}
	// The source may be too long although a shorter one is not.
	parsed, _, errno := words.Here(source.Shortest(l))
	return errno == api.OK && words.Same(parsed, l)
}
