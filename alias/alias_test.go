package alias_test

import (
	"cmp"
	"maps"
	"regexp"
	"slices"
	"strconv"
	"strings"
	"testing"

	"jobshell/alias"
	"jobshell/api"
)

const reservedWords = "! { } case do done elif else esac fi for if in then until while"

// nameForm is the form of the names of aliases, apart from reserved words.
var nameForm = regexp.MustCompile(`^[A-Za-z0-9_./,:+%@^-]{1,32}$`)

func isName(s string) bool {
	return nameForm.MatchString(s) && !slices.Contains(strings.Fields(reservedWords), s)
}

// names returns strings that are names of aliases, and others that are not.
func names() []string {
	l := []string{"", "ll", "a b", "a\n", "'a'", "\\a", "$a", "a=1", "~", "IF", "if1", "xif", "fi.", "iff", "caf\xc3\xa9", "\x00", strings.Repeat("n", api.MaxName), strings.Repeat("n", api.MaxName+1), strings.Repeat("-", 10000)}
	for b := range 256 {
		l = append(l, string([]byte{byte(b)}), string([]byte{'x', byte(b)}))
	}
	return append(l, strings.Fields(reservedWords)...)
}

// many returns a list of n aliases with the names n100, n101 and so on.
func many(n int) []api.Alias {
	var l []api.Alias
	for i := range n {
		l = append(l, api.Alias{Name: "n" + strconv.Itoa(100+i), Value: strconv.Itoa(i)})
	}
	return l
}

// lists calls f with all lists of at most n of some aliases, valid and not.
func lists(n int, f func(l []api.Alias)) {
	f(nil)
	if n == 0 {
		return
	}
	long := strings.Repeat("v", api.MaxWord+1)
	lists(n-1, func(l []api.Alias) {
		for _, a := range []api.Alias{{Name: "B", Value: "1"}, {Name: "a", Value: long[1:]}, {Name: "a.", Value: "3"}, {Name: "b"}, {Name: "if"}, {Name: "c", Value: long}, {Name: "", Value: long}} {
			f(append(slices.Clone(l), a))
		}
	})
}

// valid returns by definition the result of Valid.
func valid(l []api.Alias) api.Errno {
	if len(l) > 64 {
		return api.ErrLimit
	}
	previous := ""
	for _, a := range l {
		if !isName(a.Name) {
			return api.ErrName
		}
		if len(a.Value) > 4096 {
			return api.ErrTooLong
		}
		// No name is as small as the empty string.
		if strings.Compare(previous, a.Name) >= 0 {
			return api.ErrInvalid
		}
		previous = a.Name
	}
	return api.OK
}

func TestValid(t *testing.T) {
	lists(4, func(l []api.Alias) {
		if errno, want := alias.Valid(l), valid(l); errno != want {
			t.Fatalf("Valid(%.60q) is %d, want %d", l, errno, want)
		}
	})
	for _, name := range names() {
		want := api.OK
		if !isName(name) {
			want = api.ErrName
		}
		if errno := alias.Valid([]api.Alias{{Name: name}}); errno != want {
			t.Errorf("Valid of the name %.40q is %d, want %d", name, errno, want)
		}
	}
}

func TestValidOrder(t *testing.T) {
	long := strings.Repeat("v", api.MaxWord+1)
	for _, c := range []struct {
		l    []api.Alias
		want api.Errno
	}{
		{many(api.MaxAliases), api.OK},
		{many(api.MaxAliases + 1), api.ErrLimit},
		{make([]api.Alias, api.MaxAliases+1), api.ErrLimit},
		{make([]api.Alias, api.MaxAliases), api.ErrName},
		{[]api.Alias{{Name: "a", Value: long[1:]}}, api.OK},
		{[]api.Alias{{Name: "a", Value: long}}, api.ErrTooLong},
		{[]api.Alias{{Name: "a b", Value: long}}, api.ErrName},
		{[]api.Alias{{Name: "b"}, {Name: "a", Value: long}}, api.ErrTooLong},
		{[]api.Alias{{Name: "b"}, {Name: "a"}, {Name: "if"}}, api.ErrInvalid},
		{[]api.Alias{{Name: "b"}, {Name: "fi"}, {Name: "a"}}, api.ErrName},
		{[]api.Alias{{Name: "a"}, {Name: "a"}}, api.ErrInvalid},
		{[]api.Alias{{Name: "a"}, {Name: "B"}}, api.ErrInvalid},
		{[]api.Alias{{Name: "10"}, {Name: "9"}, {Name: "B"}, {Name: "a"}, {Name: "aa"}}, api.OK},
	} {
		if errno := alias.Valid(c.l); errno != c.want {
			t.Errorf("Valid(%.80q) is %d, want %d", c.l, errno, c.want)
		}
	}
}

func toMap(l []api.Alias) map[string]string {
	m := map[string]string{}
	for _, a := range l {
		m[a.Name] = a.Value
	}
	return m
}

func fromMap(m map[string]string) []api.Alias {
	var l []api.Alias
	for name, value := range m {
		l = append(l, api.Alias{Name: name, Value: value})
	}
	slices.SortFunc(l, func(a, b api.Alias) int { return cmp.Compare(a.Name, b.Name) })
	return l
}

// set returns by definition the result of Set.
func set(l []api.Alias, name, value string) ([]api.Alias, api.Errno) {
	if errno := valid(l); errno != api.OK {
		return l, errno
	}
	if !isName(name) {
		return l, api.ErrName
	}
	if len(value) > 4096 {
		return l, api.ErrTooLong
	}
	m := toMap(l)
	if _, ok := m[name]; !ok && len(l) == 64 {
		return l, api.ErrLimit
	}
	m[name] = value
	return fromMap(m), api.OK
}

// withSpare returns a copy of a list that has spare capacity, and all of its memory.
func withSpare(l []api.Alias) (copied, memory []api.Alias) {
	memory = append(slices.Clone(l), api.Alias{Name: "spare"}, api.Alias{Name: "spare"})
	return memory[:len(l)], memory
}

// checkMemory checks that a call has not changed its list l, and that a result of a call without an error is new memory.
func checkMemory(t *testing.T, l, memory, result []api.Alias, errno api.Errno) {
	t.Helper()
	before := append(slices.Clone(l), api.Alias{Name: "spare"}, api.Alias{Name: "spare"})
	if errno == api.OK {
		for i := range result {
			result[i] = api.Alias{Name: "changed"}
		}
		_ = append(result, api.Alias{Name: "changed"})
	}
	if !slices.Equal(memory, before) {
		t.Fatalf("the list %.60q has become %.60q", before, memory)
	}
}

func checkSet(t *testing.T, l []api.Alias, name, value string) {
	t.Helper()
	copied, memory := withSpare(l)
	got, errno := alias.Set(copied, name, value)
	if want, wantErrno := set(l, name, value); !slices.Equal(got, want) || errno != wantErrno {
		t.Fatalf("Set(%.60q, %.40q, %.20q) is %.60q, %d, want %.60q, %d", l, name, value, got, errno, want, wantErrno)
	}
	if errno == api.OK {
		checkList(t, l, got, name, value, true)
	}
	checkMemory(t, l, memory, got, errno)
}

// checkList checks that a list is valid, and differs from another one only in one name.
func checkList(t *testing.T, l, changed []api.Alias, name, value string, there bool) {
	t.Helper()
	if errno := alias.Valid(changed); errno != api.OK {
		t.Fatalf("Valid(%.60q) is %d", changed, errno)
	}
	if got, ok := alias.Get(changed, name); got != value || ok != there {
		t.Fatalf("Get(%.60q, %q) is %.20q, %v, want %.20q, %v", changed, name, got, ok, value, there)
	}
	before, after := toMap(l), toMap(changed)
	delete(before, name)
	delete(after, name)
	if !maps.Equal(before, after) {
		t.Fatalf("the aliases %.60q have become %.60q", before, after)
	}
}

func TestSet(t *testing.T) {
	long := strings.Repeat("v", api.MaxWord+1)
	lists(3, func(l []api.Alias) {
		for _, name := range []string{"", "0", "B", "a", "a.", "aa", "b", "z", "fi"} {
			for _, value := range []string{"", "x ", long[1:], long} {
				checkSet(t, l, name, value)
			}
		}
	})
	for _, name := range names() {
		checkSet(t, many(2), name, "x")
		checkSet(t, many(api.MaxAliases), name, "x")
		checkSet(t, many(2), name, long)
	}
	for _, name := range []string{"n100", "n163", "n164", "a", "if"} {
		checkSet(t, many(api.MaxAliases-1), name, "x")
		checkSet(t, many(api.MaxAliases), name, "x")
		checkSet(t, many(api.MaxAliases), name, long)
		checkSet(t, many(api.MaxAliases+1), name, "x")
	}
}

func checkUnset(t *testing.T, l []api.Alias, name string) {
	t.Helper()
	copied, memory := withSpare(l)
	got, errno := alias.Unset(copied, name)
	want, wantErrno := l, valid(l)
	m := toMap(l)
	if _, ok := m[name]; wantErrno == api.OK && !ok {
		wantErrno = api.ErrNotFound
	} else if wantErrno == api.OK {
		delete(m, name)
		want = fromMap(m)
	}
	if !slices.Equal(got, want) || errno != wantErrno {
		t.Fatalf("Unset(%.60q, %.40q) is %.60q, %d, want %.60q, %d", l, name, got, errno, want, wantErrno)
	}
	if errno == api.OK {
		checkList(t, l, got, name, "", false)
	}
	checkMemory(t, l, memory, got, errno)
}

func TestUnset(t *testing.T) {
	lists(4, func(l []api.Alias) {
		for _, name := range []string{"", "B", "a", "a.", "aa", "b", "if"} {
			checkUnset(t, l, name)
		}
	})
	for _, name := range []string{"n100", "n131", "n163", "n164", "", "if"} {
		checkUnset(t, many(api.MaxAliases), name)
		checkUnset(t, many(api.MaxAliases+1), name)
	}
}

func TestGet(t *testing.T) {
	l := []api.Alias{{Name: "b", Value: "1"}, {Name: "a", Value: "2"}, {Name: "b", Value: "3"}, {Name: "if", Value: "4"}, {Name: "", Value: "5"}, {Name: "e"}}
	for _, c := range []struct {
		name, want string
		ok         bool
	}{{"b", "1", true}, {"a", "2", true}, {"if", "4", true}, {"", "5", true}, {"e", "", true}, {"A", "", false}, {"c", "", false}, {"ab", "", false}, {" ", "", false}} {
		if value, ok := alias.Get(l, c.name); value != c.want || ok != c.ok {
			t.Errorf("Get(%q) is %q, %v, want %q, %v", c.name, value, ok, c.want, c.ok)
		}
	}
	if value, ok := alias.Get(nil, ""); value != "" || ok {
		t.Errorf("Get of no aliases is %q, %v", value, ok)
	}
	if value, ok := alias.Get(many(100), "n199"); value != "99" || !ok {
		t.Errorf("Get of the last of many aliases is %q, %v", value, ok)
	}
}
