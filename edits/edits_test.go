package edits_test

import (
	"math"
	"slices"
	"strings"
	"testing"

	"jobshell/api"
	"jobshell/edits"
	"jobshell/small"
)

type list = []api.Edit

func edit(from, to int, text string) api.Edit { return api.Edit{From: from, To: to, Text: text} }

// eachValid calls f with lists of at most two edits of s, all of which are valid.
func eachValid(s string, f func(l list)) {
	f(nil)
	eachEdit(0, len(s), func(a api.Edit) {
		f(list{a})
		eachEdit(a.To, len(s), func(b api.Edit) { f(list{a, b}) })
	})
}

// eachEdit calls f with edits of the bytes between two offsets.
func eachEdit(low, high int, f func(e api.Edit)) {
	for from := low; from <= high; from++ {
		for to := from; to <= high; to++ {
			for _, text := range []string{"", "x", "yz\n"} {
				f(api.Edit{From: from, To: to, Text: text})
			}
		}
	}
}

func TestValid(t *testing.T) {
	full := strings.Repeat("a", api.MaxText)
	for _, c := range []struct {
		s    string
		l    list
		want api.Errno
	}{
		{"abcd", nil, api.OK}, {"", list{{}}, api.OK}, {"abcd", list{edit(0, 4, "")}, api.OK}, {"abcd", list{edit(4, 4, "x")}, api.OK}, {"abcd", list{edit(1, 2, ""), edit(2, 3, "")}, api.OK}, {"abcd", list{edit(1, 1, "a"), edit(1, 1, "b"), edit(1, 2, "c"), edit(2, 2, "d")}, api.OK},
		{"abcd", make(list, api.MaxEdits), api.OK}, {"abcd", make(list, api.MaxEdits+1), api.ErrLimit}, {"abcd", append(make(list, api.MaxEdits), api.Edit{From: -1}), api.ErrLimit},
		{"abcd", list{edit(0, 5, "")}, api.ErrRange}, {"abcd", list{edit(-1, 0, "")}, api.ErrRange}, {"abcd", list{edit(-2, -1, "")}, api.ErrRange}, {"abcd", list{edit(2, 1, "")}, api.ErrRange}, {"abcd", list{edit(5, 5, "")}, api.ErrRange}, {"", list{edit(0, 1, "")}, api.ErrRange},
		{"abcd", list{edit(math.MinInt, math.MaxInt, "")}, api.ErrRange}, {"abcd", list{edit(0, math.MaxInt, "")}, api.ErrRange}, {"abcd", list{edit(math.MaxInt, math.MaxInt, "")}, api.ErrRange}, {"abcd", list{edit(math.MinInt, 0, "")}, api.ErrRange}, {"abcd", list{edit(0, math.MinInt, "")}, api.ErrRange},
		{"abcd", list{edit(2, 3, ""), edit(1, 1, "")}, api.ErrState}, {"abcd", list{edit(1, 3, ""), edit(2, 4, "")}, api.ErrState}, {"abcd", list{edit(1, 2, ""), edit(1, 1, "")}, api.ErrState}, {"abcd", list{edit(1, 1, ""), edit(3, 4, ""), edit(3, 3, "")}, api.ErrState},
		{"abcd", list{edit(2, 3, ""), edit(1, 5, "")}, api.ErrRange}, {"abcd", list{edit(2, 3, ""), edit(1, 1, ""), edit(0, 5, "")}, api.ErrState}, {"abcd", list{edit(2, 3, ""), edit(0, 5, ""), edit(1, 1, "")}, api.ErrRange}, {"abcd", list{edit(2, 3, ""), edit(1, 0, "")}, api.ErrRange},
		{"abcd", list{edit(0, 0, full[4:])}, api.OK}, {"abcd", list{edit(0, 0, full[3:])}, api.ErrTooLong}, {"abcd", list{edit(0, 4, full)}, api.OK}, {"abcd", list{edit(0, 3, full)}, api.ErrTooLong}, {"abcd", list{edit(0, 0, full), edit(0, 4, "")}, api.OK}, {"abcd", list{edit(0, 0, full), edit(0, 3, "")}, api.ErrTooLong},
		{"abcd", list{edit(0, 0, full), edit(5, 5, "")}, api.ErrRange}, {"abcd", list{edit(1, 1, full), edit(0, 0, "")}, api.ErrState},
		{full, nil, api.OK}, {full + "a", nil, api.ErrTooLong}, {full + "a", list{edit(0, 1, "")}, api.OK}, {full, list{edit(0, 0, "a")}, api.ErrTooLong}, {full, list{edit(0, 1, "a")}, api.OK},
	} {
		if e := edits.Valid(c.s, c.l); e != c.want {
			t.Errorf("Valid of %d bytes and %v is %d, want %d", len(c.s), c.l, e, c.want)
		}
		text, e := edits.Apply(c.s, c.l)
		if e != c.want || c.want != api.OK && text != c.s {
			t.Errorf("Apply to %d bytes of %v is %d bytes, %d, want %d", len(c.s), c.l, len(text), e, c.want)
		}
		inverse, e := edits.Invert(c.s, c.l)
		if e != c.want || c.want != api.OK && len(inverse) != 0 {
			t.Errorf("Invert of %d bytes and %v is %v, %d, want %d", len(c.s), c.l, inverse, e, c.want)
		}
	}
}

func TestApply(t *testing.T) {
	for _, c := range []struct {
		s    string
		l    list
		want string
	}{
		{"abcd", nil, "abcd"}, {"", list{edit(0, 0, "x")}, "x"}, {"abcd", list{edit(0, 4, "")}, ""}, {"abcd", list{edit(1, 2, "XY"), edit(2, 2, "-")}, "aXY-cd"}, {"abcd", list{edit(1, 1, "1"), edit(1, 1, "2"), edit(1, 1, "3")}, "a123bcd"},
		{"abcd", list{edit(1, 1, "-"), edit(1, 2, "XY")}, "a-XYcd"}, {"abcd", list{edit(0, 0, "<"), edit(4, 4, ">")}, "<abcd>"}, {"abcd", list{edit(0, 1, ""), edit(1, 3, "bc"), edit(3, 4, "cd")}, "bccd"}, {"é\xff", list{edit(1, 2, "\xaa")}, "\xc3\xaa\xff"},
	} {
		if s, e := edits.Apply(c.s, c.l); s != c.want || e != api.OK {
			t.Errorf("Apply(%q, %v) is %q, %d, want %q", c.s, c.l, s, e, c.want)
		}
	}
}

func TestInvert(t *testing.T) {
	for _, c := range []struct {
		s       string
		l, want list
	}{
		{"abcd", nil, nil}, {"abcd", list{edit(1, 2, "XY"), edit(2, 2, "-")}, list{edit(1, 3, "b"), edit(3, 4, "")}}, {"abcd", list{edit(0, 2, ""), edit(3, 4, "xyz")}, list{edit(0, 0, "ab"), edit(1, 4, "d")}}, {"abcd", list{edit(4, 4, "e")}, list{edit(4, 5, "")}},
		{"abcd", list{edit(1, 1, "x"), edit(1, 1, "yz"), edit(1, 4, "")}, list{edit(1, 2, ""), edit(2, 4, ""), edit(4, 4, "bcd")}}, {"", list{{}}, list{{}}},
	} {
		if l, e := edits.Invert(c.s, c.l); !slices.Equal(l, c.want) || e != api.OK {
			t.Errorf("Invert(%q, %v) is %v, %d, want %v", c.s, c.l, l, e, c.want)
		}
	}
}

func TestInverse(t *testing.T) {
	eachValid("ab\nc", func(l list) {
		edited, e := edits.Apply("ab\nc", l)
		if e != api.OK {
			t.Errorf("Apply of %v is %d", l, e)
		}
		inverse, e := edits.Invert("ab\nc", l)
		if e != api.OK || len(inverse) != len(l) {
			t.Errorf("Invert of %v is %v, %d", l, inverse, e)
		}
		if e := edits.Valid(edited, inverse); e != api.OK {
			t.Errorf("the inverse %v of %v is not valid: %d", inverse, l, e)
		}
		if s, e := edits.Apply(edited, inverse); s != "ab\nc" || e != api.OK {
			t.Errorf("the inverse of %v restores %q, %d", l, s, e)
		}
		for i, b := range inverse {
			if b.Text != "ab\nc"[l[i].From:l[i].To] || edited[b.From:b.To] != l[i].Text {
				t.Errorf("edit %d of the inverse of %v is %v", i, l, b)
			}
		}
	})
}

func TestInverseOfLongText(t *testing.T) {
	full := strings.Repeat("a", api.MaxText)
	for _, l := range []list{{edit(0, api.MaxText, "")}, {edit(0, 1, "b")}, {edit(5, 100, "xyz"), edit(api.MaxText, api.MaxText, "end")}} {
		edited, _ := edits.Apply(full, l)
		inverse, _ := edits.Invert(full, l)
		if s, e := edits.Apply(edited, inverse); s != full || e != api.OK {
			t.Errorf("the inverse of %v restores %d bytes, %d", l, len(s), e)
		}
	}
	l, e := edits.Invert(full+"b", list{edit(api.MaxText, api.MaxText+1, "")})
	if want := (list{edit(api.MaxText, api.MaxText, "b")}); !slices.Equal(l, want) || e != api.OK {
		t.Errorf("the inverse of an edit of a text that is too long is %v, %d", l, e)
	}
}

func TestShift(t *testing.T) {
	for _, c := range []struct {
		l    list
		want []int
	}{
		{nil, []int{0, 1, 2, 3, 4}},
		{list{edit(1, 2, "XY"), edit(2, 2, "-")}, []int{0, 1, 3, 5, 6}},
		{list{edit(0, 0, "ab")}, []int{0, 3, 4, 5}},
		{list{edit(2, 2, "ab")}, []int{0, 1, 2, 5, 6}},
		{list{edit(0, 3, "x")}, []int{0, 0, 0, 1, 2}},
		{list{edit(1, 4, "")}, []int{0, 1, 1, 1, 1, 2}},
		{list{edit(1, 3, "wxyz")}, []int{0, 1, 1, 5, 6}},
		{list{edit(1, 1, "a"), edit(1, 1, "bc"), edit(1, 3, "d")}, []int{0, 1, 4, 5, 6}},
		{list{edit(0, 1, ""), edit(2, 4, "abc")}, []int{0, 0, 1, 1, 4, 5}},
	} {
		for at, want := range c.want {
			if n := edits.Shift(c.l, at); n != want {
				t.Errorf("Shift(%v, %d) is %d, want %d", c.l, at, n, want)
			}
		}
	}
	if n := edits.Shift(list{edit(0, 1, "")}, api.MaxText); n != api.MaxText-1 {
		t.Errorf("Shift of MaxText is %d", n)
	}
}

// shifted is where an offset goes by the definition of Shift, edit by edit.
func shifted(l list, at int) int {
	moved := at
	for i, e := range l {
		if e.To <= at && e.From < at {
			moved += len(e.Text) - (e.To - e.From)
		}
		if e.From < at && at < e.To {
			begin, _ := edits.Apply(strings.Repeat("a", e.From), l[:i])
			return len(begin)
		}
	}
	return moved
}

func TestShiftOrder(t *testing.T) {
	const s = "abcde"
	eachValid(s, func(l list) {
		last := 0
		for at := range len(s) + 2 {
			n := edits.Shift(l, at)
			if n != shifted(l, at) {
				t.Errorf("Shift(%v, %d) is %d, want %d", l, at, n, shifted(l, at))
			}
			if n < last {
				t.Errorf("Shift(%v, %d) is %d, but %d before", l, at, n, last)
			}
			last = n
		}
	})
}

func TestShiftAnything(t *testing.T) {
	numbers := []int{math.MinInt, -1, 0, 1, math.MaxInt}
	for _, from := range numbers {
		for _, to := range numbers {
			for _, at := range numbers {
				edits.Shift(list{edit(from, to, "x"), edit(to, from, "")}, at)
			}
		}
	}
}

func TestDiff(t *testing.T) {
	for _, c := range []struct {
		a, b string
		want list
	}{
		{"", "", nil}, {"a", "a", nil}, {"ab\n", "ab\n", nil}, {"", "x", list{edit(0, 0, "x")}}, {"x", "", list{edit(0, 1, "")}}, {"aXa", "aa", list{edit(1, 2, "")}}, {"aa", "aXa", list{edit(1, 1, "X")}},
		{"aa", "aaa", list{edit(2, 2, "a")}}, {"aaa", "aa", list{edit(2, 3, "")}}, {"abc", "xbc", list{edit(0, 1, "x")}}, {"abc", "abx", list{edit(2, 3, "x")}}, {"abc", "xyz", list{edit(0, 3, "xyz")}}, {"abab", "ab", list{edit(2, 4, "")}},
		{"a1b2c", "a3b4c", list{edit(1, 4, "3b4")}}, {"é", "è", list{edit(1, 2, "\xa8")}},
	} {
		if l := edits.Diff(c.a, c.b); !slices.Equal(l, c.want) {
			t.Errorf("Diff(%q, %q) is %v, want %v", c.a, c.b, l, c.want)
		}
	}
}

func TestDiffInverse(t *testing.T) {
	var all []string
	small.Each([]string{"a", "b", "\n"}, 4, func(s string) { all = append(all, s) })
	for _, a := range all {
		for _, b := range all {
			l := edits.Diff(a, b)
			if s, e := edits.Apply(a, l); s != b || e != api.OK {
				t.Errorf("Diff(%q, %q) is %v, which leads to %q, %d", a, b, l, s, e)
			}
			if (a == b) != (len(l) == 0) || len(l) > 1 {
				t.Errorf("Diff(%q, %q) has %d edits", a, b, len(l))
			}
		}
	}
	full := strings.Repeat("a", api.MaxText)
	if s, e := edits.Apply(full+"xyz", edits.Diff(full+"xyz", full)); s != full || e != api.OK {
		t.Errorf("the difference to MaxText bytes leads to %d bytes, %d", len(s), e)
	}
}

func TestArgumentsStay(t *testing.T) {
	spare := list{edit(1, 2, "XY"), edit(2, 2, "-"), edit(3, 4, "spare")}
	want := slices.Clone(spare)
	l := spare[:2]
	edits.Valid("abcd", l)
	edits.Apply("abcd", l)
	edits.Shift(l, 3)
	inverse, _ := edits.Invert("abcd", l)
	for i := range inverse[:cap(inverse)] {
		inverse[:cap(inverse)][i] = api.Edit{}
	}
	if !slices.Equal(spare, want) {
		t.Errorf("the edits became %v", spare)
	}
}
