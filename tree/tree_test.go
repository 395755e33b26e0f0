package tree_test

import (
	"slices"
	"strconv"
	"strings"
	"testing"
	"unsafe"

	"patchwork/api"
	"patchwork/tree"
)

// of makes a tree of these names; the Data tell which place an entry had.
func of(names ...string) []api.Entry {
	var out []api.Entry
	for i, name := range names {
		out = append(out, api.Entry{Name: name, Data: "data " + strconv.Itoa(i)})
	}
	return out
}

// trees calls do with every tree of up to most entries of these names.
func trees(names []string, most int, do func(t []api.Entry)) {
	var grow func(l []string)
	grow = func(l []string) {
		do(of(l...))
		if len(l) == most {
			return
		}
		for _, name := range names {
			grow(append(slices.Clone(l), name))
		}
	}
	grow(nil)
}

// less compares byte by byte; a text is greater than those that begin it.
func less(a, b string) bool {
	for i := range min(len(a), len(b)) {
		if a[i] != b[i] {
			return a[i] < b[i]
		}
	}
	return len(a) < len(b)
}

// slowRight holds each name against all those behind it.
func slowRight(t []api.Entry) bool {
	for i, e := range t {
		if len(e.Name) == 0 {
			return false
		}
		for _, f := range t[i+1:] {
			if !less(e.Name, f.Name) {
				return false
			}
		}
	}
	return true
}

// slowPlace counts the entries ahead of the first of that name.
func slowPlace(t []api.Entry, name string) (int, bool) {
	ahead := 0
	for _, e := range t {
		if e.Name == name {
			return ahead, true
		}
		ahead++
	}
	return 0, false
}

// slowGet takes what stands at slowPlace.
func slowGet(t []api.Entry, name string) (string, bool) {
	if at, ok := slowPlace(t, name); ok {
		return t[at].Data, true
	}
	return "", false
}

// slowPut goes from entry to entry.
func slowPut(t []api.Entry, name, data string) []api.Entry {
	at, found := slowPlace(t, name)
	var out []api.Entry
	done := false
	for i, e := range t {
		switch {
		case found && i == at:
			out, done = append(out, api.Entry{Name: name, Data: data}), true
			continue
		case !found && !done && less(name, e.Name):
			out, done = append(out, api.Entry{Name: name, Data: data}), true
		}
		out = append(out, e)
	}
	if !done {
		out = append(out, api.Entry{Name: name, Data: data})
	}
	return out
}

// slowCut goes from entry to entry.
func slowCut(t []api.Entry, name string) []api.Entry {
	at, found := slowPlace(t, name)
	var out []api.Entry
	for i, e := range t {
		if !found || i != at {
			out = append(out, e)
		}
	}
	return out
}

// check holds all four calls against the slow ones.
func check(t *testing.T, promise string, l []api.Entry, name, data string) {
	t.Helper()
	if got, want := tree.Right(l), slowRight(l); got != want {
		t.Errorf("%s: Right(%q): %v", promise, l, got)
	}
	got, ok := tree.Get(l, name)
	if want, wantOk := slowGet(l, name); got != want || ok != wantOk {
		t.Errorf("%s: Get(%q, %q): %q, %v; wanted %q, %v", promise, l, name, got, ok, want, wantOk)
	}
	if got, want := tree.Put(l, name, data), slowPut(l, name, data); !slices.Equal(got, want) {
		t.Errorf("%s: Put(%q, %q, %q): %q; wanted %q", promise, l, name, data, got, want)
	}
	if got, want := tree.Cut(l, name), slowCut(l, name); !slices.Equal(got, want) {
		t.Errorf("%s: Cut(%q, %q): %q; wanted %q", promise, l, name, got, want)
	}
}

func TestRight(t *testing.T) {
	for _, x := range []struct {
		names []string
		want  bool
	}{
		{nil, true},
		{[]string{}, true},
		{[]string{"a"}, true},
		{[]string{""}, false},
		{[]string{"a", "b"}, true},
		{[]string{"a", "b", "c", "d"}, true},
		{[]string{"b", "a"}, false},
		{[]string{"a", "c", "b"}, false},
		{[]string{"b", "a", "c"}, false},
		{[]string{"a", "a"}, false},
		{[]string{"a", "b", "b"}, false},
		{[]string{"a", "b", "a"}, false},
		{[]string{"", "a"}, false},
		{[]string{"a", ""}, false},
		{[]string{"a", "", "b"}, false},
		{[]string{"", ""}, false},
		{[]string{"a", "ab"}, true},
		{[]string{"ab", "a"}, false},
		{[]string{"a", "ab", "abc", "b"}, true},
		{[]string{"a", "a\x00"}, true},
		{[]string{"a\x00", "a"}, false},
		{[]string{"\x00"}, true},
		{[]string{"\x00", "\x00\x00", "\x01"}, true},
		{[]string{"B", "a"}, true},
		{[]string{"a", "B"}, false},
		{[]string{"10", "9"}, true},
		{[]string{"9", "10"}, false},
		{[]string{"a/b", "a0"}, true},
		{[]string{"a.b", "a/b"}, true},
		{[]string{"z", "\x7f", "\x80", "\xff", "\xff\x00"}, true},
		{[]string{"\x80", "\x7f"}, false},
		{[]string{"\xff", "a"}, false},
		{[]string{"\xc3\xa9", "z"}, false},
		{[]string{"a\n", "b c"}, true},
	} {
		if got := tree.Right(of(x.names...)); got != x.want {
			t.Errorf("P401: Right of the names %q: %v", x.names, got)
		}
	}
}

// Right asks for the names alone.
func TestRightWhateverTheData(t *testing.T) {
	for _, x := range []struct {
		tree []api.Entry
		want bool
	}{
		{[]api.Entry{{Name: "a"}, {Name: "b"}}, true},
		{[]api.Entry{{Name: "a", Data: "z"}, {Name: "b", Data: "a"}}, true},
		{[]api.Entry{{Name: "a", Data: "x"}, {Name: "b", Data: "x"}}, true},
		{[]api.Entry{{Data: "x"}}, false},
		{[]api.Entry{{Name: "a", Data: "x"}, {Name: "a", Data: "y"}}, false},
	} {
		if got := tree.Right(x.tree); got != x.want {
			t.Errorf("P401: Right(%q): %v", x.tree, got)
		}
	}
}

func TestGet(t *testing.T) {
	for _, x := range []struct {
		tree []api.Entry
		name string
		want string
		ok   bool
	}{
		{nil, "a", "", false},
		{nil, "", "", false},
		{[]api.Entry{}, "a", "", false},
		{of("a"), "a", "data 0", true},
		{of("a"), "b", "", false},
		{of("a"), "", "", false},
		{of("a", "b", "c"), "a", "data 0", true},
		{of("a", "b", "c"), "b", "data 1", true},
		{of("a", "b", "c"), "c", "data 2", true},
		{of("a", "b", "c"), "bb", "", false},
		{of("a", "b", "c"), "0", "", false},
		{of("a", "b", "c"), "d", "", false},
		{of("a", "ab", "abc"), "ab", "data 1", true},
		{of("a", "abc"), "ab", "", false},
		{of("name"), "Name", "", false},
		{of("a/b"), "a//b", "", false},
		{of("a", "\xff", "\xff\xff"), "\xff", "data 1", true},
		{of("c", "b", "a"), "a", "data 2", true},
		{of("c", "b", "a"), "c", "data 0", true},
		{of("b", "a", "b"), "b", "data 0", true},
		{of("a", "a", "a"), "a", "data 0", true},
		{of("", "a"), "", "data 0", true},
		{of("a", "", ""), "", "data 1", true},
		{[]api.Entry{{Name: "a"}}, "a", "", true},
		{[]api.Entry{{Name: "a"}, {Name: "a", Data: "later"}}, "a", "", true},
		{[]api.Entry{{Name: "a", Data: "b"}}, "b", "", false},
		{[]api.Entry{{Name: "a", Data: "x\ny\n\x00\xff"}}, "a", "x\ny\n\x00\xff", true},
	} {
		if got, ok := tree.Get(x.tree, x.name); got != x.want || ok != x.ok {
			t.Errorf("P401: Get(%q, %q): %q, %v", x.tree, x.name, got, ok)
		}
	}
}

func TestPut(t *testing.T) {
	e := func(name, data string) api.Entry { return api.Entry{Name: name, Data: data} }
	for _, x := range []struct {
		tree       []api.Entry
		name, data string
		want       []api.Entry
	}{
		{nil, "a", "1", []api.Entry{e("a", "1")}},
		{[]api.Entry{}, "a", "", []api.Entry{e("a", "")}},
		{nil, "", "1", []api.Entry{e("", "1")}},
		{nil, "", "", []api.Entry{e("", "")}},
		{[]api.Entry{e("a", "1")}, "a", "2", []api.Entry{e("a", "2")}},
		{[]api.Entry{e("a", "1")}, "a", "", []api.Entry{e("a", "")}},
		{[]api.Entry{e("b", "1")}, "a", "2", []api.Entry{e("a", "2"), e("b", "1")}},
		{[]api.Entry{e("b", "1")}, "c", "2", []api.Entry{e("b", "1"), e("c", "2")}},
		{[]api.Entry{e("a", "1"), e("c", "2")}, "b", "3", []api.Entry{e("a", "1"), e("b", "3"), e("c", "2")}},
		{[]api.Entry{e("a", "1"), e("c", "2")}, "c", "3", []api.Entry{e("a", "1"), e("c", "3")}},
		{[]api.Entry{e("a", "1"), e("abc", "2")}, "ab", "3", []api.Entry{e("a", "1"), e("ab", "3"), e("abc", "2")}},
		{[]api.Entry{e("B", "1"), e("a", "2")}, "C", "3", []api.Entry{e("B", "1"), e("C", "3"), e("a", "2")}},
		{[]api.Entry{e("a", "1"), e("\xff", "2")}, "\x80", "3", []api.Entry{e("a", "1"), e("\x80", "3"), e("\xff", "2")}},
		{[]api.Entry{e("a", "1")}, "", "2", []api.Entry{e("", "2"), e("a", "1")}},
		{[]api.Entry{e("", "1")}, "a", "2", []api.Entry{e("", "1"), e("a", "2")}},
		{[]api.Entry{e("", "1")}, "", "2", []api.Entry{e("", "2")}},
		{[]api.Entry{e("b", "1"), e("a", "2"), e("b", "3")}, "b", "4", []api.Entry{e("b", "4"), e("a", "2"), e("b", "3")}},
		{[]api.Entry{e("b", "1"), e("a", "2")}, "a", "3", []api.Entry{e("b", "1"), e("a", "3")}},
		{[]api.Entry{e("c", "1"), e("a", "2")}, "b", "3", []api.Entry{e("b", "3"), e("c", "1"), e("a", "2")}},
		{[]api.Entry{e("a", "1"), e("c", "2"), e("a", "3"), e("c", "4")}, "b", "5",
			[]api.Entry{e("a", "1"), e("b", "5"), e("c", "2"), e("a", "3"), e("c", "4")}},
		{[]api.Entry{e("b", "1"), e("a", "2")}, "c", "3", []api.Entry{e("b", "1"), e("a", "2"), e("c", "3")}},
	} {
		if got := tree.Put(x.tree, x.name, x.data); !slices.Equal(got, x.want) {
			t.Errorf("P401: Put(%q, %q, %q): %q", x.tree, x.name, x.data, got)
		}
	}
}

func TestCut(t *testing.T) {
	e := func(name, data string) api.Entry { return api.Entry{Name: name, Data: data} }
	for _, x := range []struct {
		tree []api.Entry
		name string
		want []api.Entry
	}{
		{nil, "a", nil},
		{nil, "", nil},
		{[]api.Entry{}, "a", nil},
		{[]api.Entry{e("a", "1")}, "a", nil},
		{[]api.Entry{e("a", "1")}, "b", []api.Entry{e("a", "1")}},
		{[]api.Entry{e("a", "1")}, "", []api.Entry{e("a", "1")}},
		{[]api.Entry{e("a", "1"), e("b", "2"), e("c", "3")}, "a", []api.Entry{e("b", "2"), e("c", "3")}},
		{[]api.Entry{e("a", "1"), e("b", "2"), e("c", "3")}, "b", []api.Entry{e("a", "1"), e("c", "3")}},
		{[]api.Entry{e("a", "1"), e("b", "2"), e("c", "3")}, "c", []api.Entry{e("a", "1"), e("b", "2")}},
		{[]api.Entry{e("a", "1"), e("b", "2"), e("c", "3")}, "bb", []api.Entry{e("a", "1"), e("b", "2"), e("c", "3")}},
		{[]api.Entry{e("a", "1"), e("ab", "2")}, "a", []api.Entry{e("ab", "2")}},
		{[]api.Entry{e("ab", "1")}, "a", []api.Entry{e("ab", "1")}},
		{[]api.Entry{e("\x7f", "1"), e("\xff", "2")}, "\xff", []api.Entry{e("\x7f", "1")}},
		{[]api.Entry{e("b", "1"), e("a", "2"), e("b", "3")}, "b", []api.Entry{e("a", "2"), e("b", "3")}},
		{[]api.Entry{e("b", "1"), e("a", "2"), e("b", "3")}, "a", []api.Entry{e("b", "1"), e("b", "3")}},
		{[]api.Entry{e("a", "1"), e("a", "2")}, "a", []api.Entry{e("a", "2")}},
		{[]api.Entry{e("a", "1"), e("", "2"), e("", "3")}, "", []api.Entry{e("a", "1"), e("", "3")}},
	} {
		if got := tree.Cut(x.tree, x.name); !slices.Equal(got, x.want) {
			t.Errorf("P401: Cut(%q, %q): %q", x.tree, x.name, got)
		}
	}
}

// Most of these trees are not Right.
func TestAllSmallTrees(t *testing.T) {
	names := []string{"", "a", "ab", "b", "\xff"}
	asked := append([]string{"\x00", "A", "a\x00", "aa", "abc", "c", "\x80", "\xff\xff"}, names...)
	trees(names, 4, func(l []api.Entry) {
		for _, name := range asked {
			check(t, "P401", l, name, "new")
		}
		check(t, "P401", l, "a", "")
		check(t, "P401", l, "a", "data 0")
	})
}

// Names are compared as unsigned bytes.
func TestEachByte(t *testing.T) {
	for a := range 256 {
		for b := range 256 {
			one, other := string([]byte{byte(a)}), string([]byte{byte(b)})
			check(t, "P401", of(one), other, "new")
			check(t, "P401", of(one, other), "n", "new")
			check(t, "P401", of("n"+one, "n"+other+"n"), "n"+other, "new")
		}
	}
}

// What is Put is got, what is Cut is not, and a tree stays Right.
func TestPutAndCutOfRightTrees(t *testing.T) {
	names := []string{"a", "a/b", "ab", "b", "\x80", "\xff"}
	for some := range 1 << len(names) {
		var l []api.Entry
		for i := range names {
			// Put in an order that does not rise.
			if at := i * 5 % len(names); some>>at&1 == 1 {
				l = tree.Put(l, names[at], "was")
			}
		}
		for at, name := range names {
			put, cut := tree.Put(l, name, "is"), tree.Cut(l, name)
			if !tree.Right(l) || !tree.Right(put) || !tree.Right(cut) {
				t.Errorf("P401: not Right: %q, %q, %q", l, put, cut)
			}
			if _, ok := tree.Get(l, name); ok != (some>>at&1 == 1) {
				t.Errorf("P401: Get(%q, %q): %v", l, name, ok)
			}
			if got, ok := tree.Get(put, name); got != "is" || !ok {
				t.Errorf("P401: Get(%q, %q): %q, %v", put, name, got, ok)
			}
			if got, ok := tree.Get(cut, name); got != "" || ok {
				t.Errorf("P401: Get(%q, %q): %q, %v", cut, name, got, ok)
			}
		}
	}
}

func TestManyEntries(t *testing.T) {
	const many = 3000
	var l []api.Entry
	for i := range many {
		l = append(l, api.Entry{Name: "n" + strconv.Itoa(100000+2*i), Data: strconv.Itoa(i)})
	}
	if !tree.Right(l) {
		t.Errorf("P401: Right of %d entries: false", many)
	}
	for _, i := range []int{-1, 0, 1, 2, 2999, 3000, 5997, 5998, 5999, 7000} {
		check(t, "P401", l, "n"+strconv.Itoa(100000+i), "new")
	}
	long := strings.Repeat("x", 1<<20)
	check(t, "P401", []api.Entry{{Name: long + "a", Data: long}, {Name: long + "c", Data: long}}, long+"b", long)
	check(t, "P401", []api.Entry{{Name: long, Data: long}}, long, "")
}

// share tells whether two texts have memory in common.
func share(a, b string) bool {
	if a == "" || b == "" {
		return false
	}
	from := func(s string) uintptr { return uintptr(unsafe.Pointer(unsafe.StringData(s))) }
	return from(a) < from(b)+uintptr(len(b)) && from(b) < from(a)+uintptr(len(a))
}

// texts lists all texts of trees.
func texts(all ...[]api.Entry) []string {
	var out []string
	for _, l := range all {
		for _, e := range l {
			out = append(out, e.Name, e.Data)
		}
	}
	return out
}

// answers lists all texts that the calls answer.
func answers(l []api.Entry, name, data string) []string {
	got, _ := tree.Get(l, name)
	return append(texts(tree.Put(l, name, data), tree.Cut(l, name)), got)
}

func TestTextsAreNewMemory(t *testing.T) {
	for _, l := range [][]api.Entry{nil, of("a"), of("b", "d"), of("a", "b", "c"), of("b", "a", "b"), of("", "c")} {
		for _, name := range []string{"", "a", "b", "c", "e"} {
			data := "some " + name
			given := append(texts(l), name, data)
			first, second := answers(l, name, data), answers(l, name, data)
			for _, got := range first {
				for _, s := range given {
					if share(got, s) {
						t.Errorf("P402: of %q and %q: %q is a piece of what was handed in", l, name, got)
					}
				}
				for _, s := range second {
					if share(got, s) {
						t.Errorf("P402: of %q and %q: two answers share %q", l, name, got)
					}
				}
			}
		}
	}
}

// spoil overwrites a list and its spare room.
func spoil(l []api.Entry) {
	room := l[:cap(l)]
	for i := range room {
		room[i] = api.Entry{Name: "gone", Data: "gone"}
	}
}

func TestListsAreNewMemory(t *testing.T) {
	for n := range 6 {
		was := of("a", "b", "c", "d", "e")
		// Room for more stands behind the tree that is handed in.
		room := slices.Clone(was)
		l := room[:n]
		for _, name := range []string{"", "0", "a", "b", "bb", "e", "f"} {
			put, again := tree.Put(l, name, "new"), tree.Put(l, name, "new")
			cut, more := tree.Cut(l, name), tree.Cut(l, name)
			if !slices.Equal(room, was) {
				t.Fatalf("P402: what was handed in with %q has become %q", name, room)
			}
			spoil(put)
			spoil(cut)
			if !slices.Equal(room, was) {
				t.Fatalf("P402: an answer to %q shares memory with what was handed in", name)
			}
			if !slices.Equal(again, slowPut(l, name, "new")) || !slices.Equal(more, slowCut(l, name)) {
				t.Errorf("P402: one answer to %q changes another", name)
			}
			check(t, "P402", l, name, "new")
		}
	}
}

func TestListsThatChangeAfterwards(t *testing.T) {
	for _, name := range []string{"0", "a", "b", "bb", "c", "d"} {
		was := of("a", "b", "c", "spare")
		l := slices.Clone(was)[:3]
		put, cut := tree.Put(l, name, "new"), tree.Cut(l, name)
		got, ok := tree.Get(l, name)
		spoil(l)
		if !slices.Equal(put, slowPut(was[:3], name, "new")) || !slices.Equal(cut, slowCut(was[:3], name)) {
			t.Errorf("P402: Put or Cut of %q hang on the list that was handed in: %q, %q", name, put, cut)
		}
		if want, wantOk := slowGet(was[:3], name); got != want || ok != wantOk {
			t.Errorf("P402: Get of %q hangs on the list that was handed in: %q", name, got)
		}
		check(t, "P402", l, name, "new")
	}
}

// An answer that lay in the bytes handed in would follow what befalls them.
func TestTextsThatChangeAfterwards(t *testing.T) {
	const was = "namedataothermore"
	room := []byte(was)
	name, data := unsafe.String(&room[0], 4), unsafe.String(&room[4], 4)
	other, more := unsafe.String(&room[8], 5), unsafe.String(&room[13], 4)
	l := []api.Entry{{Name: name, Data: data}}
	put, over, cut := tree.Put(l, other, more), tree.Put(l, name, more), tree.Cut(l, other)
	got, _ := tree.Get(l, name)
	if string(room) != was {
		t.Errorf("P402: what was handed in has become %q", room)
	}
	copy(room, "xxxxyyyyzzzzzuuuu")
	e := func(name, data string) api.Entry { return api.Entry{Name: name, Data: data} }
	if !slices.Equal(put, []api.Entry{e("name", "data"), e("other", "more")}) || !slices.Equal(over, []api.Entry{e("name", "more")}) {
		t.Errorf("P402: Put hangs on what was handed in: %q, %q", put, over)
	}
	if !slices.Equal(cut, []api.Entry{e("name", "data")}) || got != "data" {
		t.Errorf("P402: Cut or Get hang on what was handed in: %q, %q", cut, got)
	}
	check(t, "P402", l, name, "new")
}

func TestAnswersHangOnArgumentsAlone(t *testing.T) {
	all := [][]api.Entry{nil, of("a"), of("b"), of("a", "b"), of("b", "a"), of(""), of("a", "a"), of("a")}
	for _, a := range all {
		for _, b := range all {
			for _, name := range []string{"", "a", "b", "c"} {
				check(t, "P402", a, name, "x")
				answers(b, name, "y")
				tree.Right(b)
				check(t, "P402", a, name, "x")
			}
		}
	}
}
