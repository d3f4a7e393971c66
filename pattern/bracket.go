package pattern

import "jobshell/api"

// none is the index of a ] that is missing.
const none = -1

// class is a character class: how it is written, and the first and the last bytes of its ranges in pairs.
type class struct{ text, ranges string }

var classes = [8]class{
	{"[:alpha:]", "AZaz"},
	{"[:digit:]", "09"},
	{"[:alnum:]", "09AZaz"},
	{"[:upper:]", "AZ"},
	{"[:lower:]", "az"},
	{"[:space:]", "\t\r  "},
	{"[:blank:]", "\t\t  "},
	{"[:punct:]", "!/:@[`{~"},
}

// byteSet is the bytes that a bracket expression denotes.
type byteSet [256]bool

// add adds ranges, which are given in pairs.
func (set *byteSet) add(ranges string) {
	for i := 0; i < len(ranges); i += 2 {
		for b := int(ranges[i]); b <= int(ranges[i+1]); b++ {
			set[b] = true
		}
	}
}

// spans returns the set as a minimal ascending list.
func (set *byteSet) spans() []api.Span {
	var l []api.Span
	for i, is := range set {
		b := byte(i)
		switch {
		case !is:
		case i > 0 && set[i-1]:
			l[len(l)-1].High = b
		default:
			l = append(l, api.Span{Low: b, High: b})
		}
	}
	return l
}

// bracketAt returns the item of the bracket expression that begins at an index, and how many characters it has: none if there is no such expression.
func bracketAt(chars []char, at int, ends []int) (api.PatItem, int) {
	item := api.PatItem{Kind: api.PatSet}
	first := at + 1
	if first < len(chars) && (chars[first].is('!') || chars[first].is('^')) {
		item.Neg = true
		first++
	}
	if first == len(chars) {
		return api.PatItem{}, 0
	}
	// The first member is read in any case: a ] at its beginning ends nothing.
	end := ends[first+memberSize(chars[first:])]
	if end == none {
		return api.PatItem{}, 0
	}
	var set byteSet
	for i := first; i < end; {
		size := memberSize(chars[i:])
		set.add(memberRanges(chars[i : i+size]))
		i += size
	}
	item.Set = set.spans()
	return item, end + 1 - at
}

// memberEnds returns for each index, up to the end, where the ] is that terminates the members from there on. It is computed backwards, so that many unterminated expressions cost no more than one.
func memberEnds(chars []char) []int {
	ends := make([]int, len(chars)+1)
	ends[len(chars)] = none
	for i := len(chars) - 1; i >= 0; i-- {
		if chars[i].is(']') {
			ends[i] = i
		} else {
			ends[i] = ends[i+memberSize(chars[i:])]
		}
	}
	return ends
}

// memberSize returns how many characters the member has that chars begin with.
func memberSize(chars []char) int {
	if c, ok := classOf(chars); ok {
		return len(c.text)
	}
	if len(chars) >= 3 && chars[1].is('-') && !chars[2].is(']') {
		return 3
	}
	return 1
}

// memberRanges returns the ranges of the member that consists of chars.
func memberRanges(chars []char) string {
	if c, ok := classOf(chars); ok {
		return c.ranges
	}
	return string([]byte{chars[0].b, chars[len(chars)-1].b})
}

// classOf returns the character class that chars begin with.
func classOf(chars []char) (class, bool) {
	for _, c := range classes {
		if beginsWith(chars, c.text) {
			return c, true
		}
	}
	return class{}, false
}

// beginsWith reports whether chars begin with active characters.
func beginsWith(chars []char, text string) bool {
	if len(chars) < len(text) {
		return false
	}
	for i := range len(text) {
		if !chars[i].is(text[i]) {
			return false
		}
	}
	return true
}

// bracketRuns returns a bracket expression of a set. Its bytes are quoted, so that none of them has a special meaning.
func bracketRuns(item api.PatItem) []api.Run {
	l := []api.Run{{Text: "[", Class: api.CLit}}
	if item.Neg {
		l = append(l, api.Run{Text: "!", Class: api.CLit})
	}
	set := item.Set
	if len(set) == 0 {
		// A range that ends before it begins is a member without bytes.
		set = []api.Span{{Low: 'b', High: 'a'}}
	}
	for _, span := range set {
		l = append(l,
			api.Run{Text: oneByte(span.Low), Class: api.CQuoted},
			api.Run{Text: "-", Class: api.CLit},
			api.Run{Text: oneByte(span.High), Class: api.CQuoted})
	}
	return append(l, api.Run{Text: "]", Class: api.CLit})
}
