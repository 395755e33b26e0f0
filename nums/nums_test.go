package nums_test

import (
	"math"
	"math/big"
	"regexp"
	"slices"
	"strconv"
	"strings"
	"testing"
	"unsafe"

	"patchwork/api"
	"patchwork/nums"
)

// texts calls do with every text of up to most of the bytes in of.
func texts(of string, most int, do func(s string)) {
	var grow func(s string)
	grow = func(s string) {
		do(s)
		if len(s) == most {
			return
		}
		for i := range len(of) {
			grow(s + of[i:i+1])
		}
	}
	grow("")
}

var (
	digitsAhead = regexp.MustCompile(`^[0-9]+`)
	rangePart   = regexp.MustCompile(`^(?:([0-9]+)|([0-9]+)-([0-9]+)|([0-9]+)-|-([0-9]+))$`)
)

// value answers what digits say, and whether that is at most MaxNum.
func value(digits string) (int, bool) {
	n, ok := new(big.Int).SetString(digits, 10)
	if !ok || n.Cmp(big.NewInt(api.MaxNum)) > 0 {
		return 0, false
	}
	return int(n.Int64()), true
}

// slowRead reads by an expression and numbers of any size.
func slowRead(s string, at int) (int, int, api.Errno) {
	if at < 0 || at > len(s) {
		return 0, 0, api.ErrMalformed
	}
	digits := digitsAhead.FindString(s[at:])
	if digits == "" {
		return 0, 0, api.ErrMalformed
	}
	n, ok := value(digits)
	if !ok {
		return 0, 0, api.ErrLarge
	}
	return n, at + len(digits), api.OK
}

// slowRanges reads by an expression that lists the four forms of a part.
func slowRanges(s string) ([]api.Range, bool) {
	var out []api.Range
	for _, part := range strings.Split(s, ",") {
		m := rangePart.FindStringSubmatch(part)
		if m == nil {
			return nil, false
		}
		from, to := m[1]+m[2]+m[4], m[1]+m[3]+m[5]
		if from == "" {
			from = "1"
		}
		n, nok := value(from)
		if !nok || n < 1 {
			return nil, false
		}
		if to == "" {
			out = append(out, api.Range{From: n, To: -1})
			continue
		}
		k, kok := value(to)
		if !kok || k < n {
			return nil, false
		}
		out = append(out, api.Range{From: n, To: k})
	}
	return out, true
}

// checkRead holds Read against slowRead.
func checkRead(t *testing.T, s string, at int) {
	t.Helper()
	n, end, e := nums.Read(s, at)
	wantN, wantEnd, wantE := slowRead(s, at)
	if n != wantN || end != wantEnd || e != wantE {
		t.Errorf("P201: Read(%q, %d): %d, %d, %d; wanted %d, %d, %d", s, at, n, end, e, wantN, wantEnd, wantE)
	}
}

// checkRanges holds Ranges against slowRanges.
func checkRanges(t *testing.T, s string) {
	t.Helper()
	got, ok := nums.Ranges(s)
	want, wantOK := slowRanges(s)
	if !slices.Equal(got, want) || ok != wantOK {
		t.Errorf("P202: Ranges(%q): %v, %v; wanted %v, %v", s, got, ok, want, wantOK)
	}
}

func TestRead(t *testing.T) {
	for _, x := range []struct {
		text   string
		at     int
		n, end int
		e      api.Errno
	}{
		{"0", 0, 0, 1, api.OK},
		{"7", 0, 7, 1, api.OK},
		{"1234567890", 0, 1234567890, 10, api.OK},
		{"12,34", 0, 12, 2, api.OK},
		{"12,34", 1, 2, 2, api.OK},
		{"12,34", 3, 34, 5, api.OK},
		{"12,34", 4, 4, 5, api.OK},
		{"12-34", 0, 12, 2, api.OK},
		{"12.5e3", 0, 12, 2, api.OK},
		{"0x10", 0, 0, 1, api.OK},
		{"1_000", 0, 1, 1, api.OK},
		{"5\n6", 0, 5, 1, api.OK},
		{"5\x006", 0, 5, 1, api.OK},
		{"-8", 1, 8, 2, api.OK},
		{"00", 0, 0, 2, api.OK},
		{"007", 0, 7, 3, api.OK},
		{"a0010b", 1, 10, 5, api.OK},
		{"2147483647", 0, 1<<31 - 1, 10, api.OK},
		{"2147483648", 0, 1 << 31, 10, api.OK},
		{"0002147483648.", 0, 1 << 31, 13, api.OK},
		{"2147483649", 0, 0, 0, api.ErrLarge},
		{"0002147483649", 0, 0, 0, api.ErrLarge},
		{"21474836480", 0, 0, 0, api.ErrLarge},
		{"21474836480", 1, 1474836480, 11, api.OK},
		{"9223372036854775808", 0, 0, 0, api.ErrLarge},
		{"18446744073709551616", 0, 0, 0, api.ErrLarge},
		{"18446744073709551621", 0, 0, 0, api.ErrLarge},
		{"", 0, 0, 0, api.ErrMalformed},
		{"", 1, 0, 0, api.ErrMalformed},
		{"", -1, 0, 0, api.ErrMalformed},
		{"12", 2, 0, 0, api.ErrMalformed},
		{"12", 3, 0, 0, api.ErrMalformed},
		{"12", -1, 0, 0, api.ErrMalformed},
		{"12", math.MinInt, 0, 0, api.ErrMalformed},
		{"12", math.MaxInt, 0, 0, api.ErrMalformed},
		{"a12", 0, 0, 0, api.ErrMalformed},
		{" 12", 0, 0, 0, api.ErrMalformed},
		{"-12", 0, 0, 0, api.ErrMalformed},
		{"+12", 0, 0, 0, api.ErrMalformed},
		{"\n", 0, 0, 0, api.ErrMalformed},
		{"\u0663", 0, 0, 0, api.ErrMalformed},
		{"\uff15", 0, 0, 0, api.ErrMalformed},
	} {
		if n, end, e := nums.Read(x.text, x.at); n != x.n || end != x.end || e != x.e {
			t.Errorf("P201: Read(%q, %d): %d, %d, %d", x.text, x.at, n, end, e)
		}
	}
}

func TestReadOfEachByte(t *testing.T) {
	for b := range 256 {
		one := string([]byte{byte(b)})
		n, end, e := nums.Read(one, 0)
		if b >= '0' && b <= '9' {
			if n != b-'0' || end != 1 || e != api.OK {
				t.Errorf("P201: Read(%q): %d, %d, %d", one, n, end, e)
			}
		} else if n != 0 || end != 0 || e != api.ErrMalformed {
			t.Errorf("P201: Read(%q): %d, %d, %d", one, n, end, e)
		}
	}
}

func TestReadOfAllShortTexts(t *testing.T) {
	texts("0159a-", 5, func(s string) {
		for at := -2; at <= len(s)+2; at++ {
			checkRead(t, s, at)
		}
	})
}

// Around these a number in fewer bits would go round, or have another sign.
func TestReadNearPowers(t *testing.T) {
	for bits := range 260 {
		power := new(big.Int).Lsh(big.NewInt(1), uint(bits))
		for off := int64(-12); off <= 12; off++ {
			n := new(big.Int).Add(power, big.NewInt(off))
			if n.Sign() < 0 {
				continue
			}
			s := n.String()
			checkRead(t, s, 0)
			checkRead(t, "x000"+s+"y", 1)
		}
	}
}

func TestReadOfLongTexts(t *testing.T) {
	noughts := strings.Repeat("0", 100000)
	for _, s := range []string{
		noughts,
		noughts + "5",
		noughts + "2147483648",
		noughts + "2147483649",
		"1" + noughts,
		strings.Repeat("9", 100000),
		strings.Repeat("9", 100000) + "x",
	} {
		checkRead(t, s, 0)
		checkRead(t, s, len(s)-1)
		checkRead(t, s, len(s))
	}
}

func TestPut(t *testing.T) {
	for _, x := range []struct {
		n    int
		want string
	}{
		{0, "0"},
		{1, "1"},
		{-1, "-1"},
		{9, "9"},
		{10, "10"},
		{-10, "-10"},
		{99, "99"},
		{100, "100"},
		{-120, "-120"},
		{1000000, "1000000"},
		{api.MaxNum, "2147483648"},
		{-api.MaxNum, "-2147483648"},
		{math.MaxInt, "9223372036854775807"},
		{math.MinInt, "-9223372036854775808"},
		{math.MinInt + 1, "-9223372036854775807"},
	} {
		if got := nums.Put(x.n); got != x.want {
			t.Errorf("P201: Put(%d): %q", x.n, got)
		}
	}
}

func TestPutIsReadAgain(t *testing.T) {
	check := func(n int) {
		s := nums.Put(n)
		if got, end, e := nums.Read("-"+s+"-", 1); got != n || end != 1+len(s) || e != api.OK {
			t.Errorf("P201: Read of Put(%d): %d, %d, %d", n, got, end, e)
		}
		if neg := nums.Put(-n); n > 0 && neg != "-"+s {
			t.Errorf("P201: Put(%d): %q", -n, neg)
		}
	}
	for n := range 3000 {
		check(n)
		check(api.MaxNum - n)
		check(n * 715827)
	}
}

func TestPutNearPowersOfTen(t *testing.T) {
	for power := 1; power <= math.MaxInt/10; power *= 10 {
		for off := -2; off <= 2; off++ {
			for _, n := range []int{power + off, -power - off} {
				if got := nums.Put(n); got != big.NewInt(int64(n)).String() {
					t.Errorf("P201: Put(%d): %q", n, got)
				}
			}
		}
	}
}

func TestRanges(t *testing.T) {
	for _, x := range []struct {
		text string
		want []api.Range
	}{
		{"1", []api.Range{{From: 1, To: 1}}},
		{"12", []api.Range{{From: 12, To: 12}}},
		{"3-5", []api.Range{{From: 3, To: 5}}},
		{"3-3", []api.Range{{From: 3, To: 3}}},
		{"1-1", []api.Range{{From: 1, To: 1}}},
		{"3-", []api.Range{{From: 3, To: -1}}},
		{"1-", []api.Range{{From: 1, To: -1}}},
		{"-5", []api.Range{{From: 1, To: 5}}},
		{"-1", []api.Range{{From: 1, To: 1}}},
		{"007", []api.Range{{From: 7, To: 7}}},
		{"010-0011", []api.Range{{From: 10, To: 11}}},
		{"-09,08-", []api.Range{{From: 1, To: 9}, {From: 8, To: -1}}},
		{"2,4-6,9-", []api.Range{{From: 2, To: 2}, {From: 4, To: 6}, {From: 9, To: -1}}},
		{"9-,-3,5", []api.Range{{From: 9, To: -1}, {From: 1, To: 3}, {From: 5, To: 5}}},
		{"5,5,1-9,5", []api.Range{{From: 5, To: 5}, {From: 5, To: 5}, {From: 1, To: 9}, {From: 5, To: 5}}},
		{"2147483648", []api.Range{{From: 1 << 31, To: 1 << 31}}},
		{"2147483648-", []api.Range{{From: 1 << 31, To: -1}}},
		{"-2147483648", []api.Range{{From: 1, To: 1 << 31}}},
		{"2147483647-2147483648", []api.Range{{From: 1<<31 - 1, To: 1 << 31}}},
	} {
		if got, ok := nums.Ranges(x.text); !ok || !slices.Equal(got, x.want) {
			t.Errorf("P202: Ranges(%q): %v, %v", x.text, got, ok)
		}
	}
}

func TestWrongRanges(t *testing.T) {
	for _, s := range []string{
		"", "-", "--", "---", ",", ",,", "1,", ",1", "1,,2", "1,-", "-,1", "1,-,2",
		"0", "00", "0-", "0-0", "0-5", "-0", "1-0", "1,0", "0,1", "3-00",
		"5-4", "10-9", "1,3-2", "3-2,1", "2147483648-1",
		"1-2-3", "--1", "1--2", "1--", "-1-", "-1-2", "1-2-",
		"a", "1a", "a1", "1-a", "a-1", "1-2a", "1,a", "1;2", "1:2", "1..2",
		" ", " 1", "1 ", "1, 2", "1 -2", "1- 2", "1\n", "\n1", "1\x00", "1-\x00",
		"+1", "1-+2", "0x1", "1e2", "1_0", "1.0", "\u0663", "1\u20132",
		"2147483649", "1-2147483649", "2147483649-", "-2147483649", "2147483649-2147483650",
		"1,2147483649", "18446744073709551617", "1-18446744073709551618", strings.Repeat("9", 1000),
	} {
		if got, ok := nums.Ranges(s); ok || len(got) != 0 {
			t.Errorf("P202: Ranges(%q): %v, %v", s, got, ok)
		}
	}
}

func TestRangesOfAllShortTexts(t *testing.T) {
	texts("0129-,", 6, func(s string) { checkRanges(t, s) })
	texts("1-,a ", 5, func(s string) { checkRanges(t, s) })
}

func TestRangesOfAllShortLists(t *testing.T) {
	parts := []string{
		"", "-", "0", "1", "-1", "1-", "02", "2-3", "3-2", "3-3", "1-0", "x",
		"2147483648", "2147483649", "-2147483649", "2147483648-2147483648",
	}
	for _, a := range parts {
		checkRanges(t, a)
		for _, b := range parts {
			checkRanges(t, a+","+b)
			checkRanges(t, a+"-"+b)
			for _, c := range parts {
				checkRanges(t, a+","+b+","+c)
			}
		}
	}
}

func TestRangesOfManyParts(t *testing.T) {
	const n = 20000
	var list []string
	for i := 1; i <= n; i++ {
		list = append(list, strconv.Itoa(i)+"-"+strconv.Itoa(2*i))
	}
	s := strings.Join(list, ",")
	got, ok := nums.Ranges(s)
	if !ok || len(got) != n {
		t.Fatalf("P202: Ranges of %d parts: %d, %v", n, len(got), ok)
	}
	for i, r := range got {
		if r != (api.Range{From: i + 1, To: 2*i + 2}) {
			t.Fatalf("P202: Ranges of %d parts: the part %d: %v", n, i, r)
		}
	}
	if got, ok := nums.Ranges(s + ",0"); ok || len(got) != 0 {
		t.Errorf("P202: Ranges of many parts and a wrong one: %d, %v", len(got), ok)
	}
}

func TestHas(t *testing.T) {
	l := []api.Range{{From: 20, To: -1}, {From: 2, To: 4}, {From: 7, To: 7}, {From: 12, To: 11}}
	for _, x := range []struct {
		list []api.Range
		n    int
		want bool
	}{
		{nil, 1, true},
		{nil, 99, true},
		{nil, math.MaxInt, true},
		{nil, 0, false},
		{nil, -1, false},
		{nil, math.MinInt, false},
		{[]api.Range{}, 1, true},
		{[]api.Range{}, 0, false},
		{l, 1, false},
		{l, 2, true},
		{l, 3, true},
		{l, 4, true},
		{l, 5, false},
		{l, 6, false},
		{l, 7, true},
		{l, 8, false},
		{l, 11, false},
		{l, 12, false},
		{l, 19, false},
		{l, 20, true},
		{l, 21, true},
		{l, math.MaxInt, true},
		{l, 0, false},
		{l, -1, false},
		{l, math.MinInt, false},
		{[]api.Range{{From: -5, To: 5}}, 1, true},
		{[]api.Range{{From: -5, To: 5}}, 6, false},
		{[]api.Range{{From: -5, To: 5}}, 0, false},
		{[]api.Range{{From: -5, To: 5}}, -5, false},
		{[]api.Range{{From: -5, To: -3}}, -4, false},
		{[]api.Range{{From: -5, To: -3}}, 4, true},
		{[]api.Range{{From: 0, To: 0}}, 0, false},
		{[]api.Range{{From: 0, To: 0}}, 1, false},
		{[]api.Range{{}}, 1, false},
		{[]api.Range{{From: 3, To: -2}}, 2, false},
		{[]api.Range{{From: 3, To: -2}}, 3, true},
		{[]api.Range{{From: 3, To: math.MinInt}}, 9, true},
		{[]api.Range{{From: 3, To: 0}}, 3, false},
		{[]api.Range{{From: math.MinInt, To: math.MaxInt}}, math.MaxInt, true},
		{[]api.Range{{From: math.MaxInt, To: math.MaxInt}}, math.MaxInt, true},
		{[]api.Range{{From: math.MaxInt, To: math.MaxInt}}, math.MaxInt - 1, false},
		{[]api.Range{{From: 5, To: 5}, {From: 1, To: 1}}, 1, true},
	} {
		if got := nums.Has(x.list, x.n); got != x.want {
			t.Errorf("P202: Has(%v, %d): %v", x.list, x.n, got)
		}
	}
}

func TestHasOfAllSmallLists(t *testing.T) {
	var all []api.Range
	for from := -1; from <= 4; from++ {
		for to := -2; to <= 4; to++ {
			all = append(all, api.Range{From: from, To: to})
		}
	}
	in := func(r api.Range, n int) bool {
		if r.To < 0 {
			return n >= r.From
		}
		return n >= r.From && n <= r.To
	}
	for _, a := range all {
		for _, b := range all {
			for n := -2; n <= 6; n++ {
				want := n >= 1 && (in(a, n) || in(b, n))
				if got := nums.Has([]api.Range{a, b}, n); got != want {
					t.Errorf("P202: Has(%v, %v, %d): %v", a, b, n, got)
				}
			}
		}
	}
}

func TestRangesAnswerNewMemory(t *testing.T) {
	for _, s := range []string{"1", "1,2-3", "4-,-5,6", "1,2,3,4,5,6,7,8,9"} {
		first, _ := nums.Ranges(s)
		second, _ := nums.Ranges(s)
		want, _ := slowRanges(s)
		room := first[:cap(first)]
		for i := range room {
			room[i] = api.Range{From: -7, To: -7}
		}
		if third, _ := nums.Ranges(s); !slices.Equal(second, want) || !slices.Equal(third, want) {
			t.Errorf("P203: Ranges(%q): one answer changes another", s)
		}
	}
}

// An answer that lay in the bytes handed in would follow what befalls them.
func TestWhatIsHandedInIsNotKept(t *testing.T) {
	room := []byte("12,3-4 and more")
	s := unsafe.String(&room[0], 6)
	l, ok := nums.Ranges(s)
	n, end, e := nums.Read(s, 0)
	if string(room) != "12,3-4 and more" {
		t.Errorf("P203: what was handed in has become %q", room)
	}
	copy(room, "99999999999")
	if !ok || !slices.Equal(l, []api.Range{{From: 12, To: 12}, {From: 3, To: 4}}) {
		t.Errorf("P203: Ranges hang on what was handed in: %v, %v", l, ok)
	}
	if n != 12 || end != 2 || e != api.OK {
		t.Errorf("P203: Read hangs on what was handed in: %d, %d, %d", n, end, e)
	}
	if got, ok := nums.Ranges(s); !ok || !slices.Equal(got, []api.Range{{From: 999999, To: 999999}}) {
		t.Errorf("P203: what was handed in earlier is kept: %v, %v", got, ok)
	}
}

func TestListsStayAsTheyAre(t *testing.T) {
	was := []api.Range{{From: 5, To: 6}, {From: 1, To: 2}, {From: 1, To: -1}, {From: 9, To: 9}}
	room := slices.Clone(was)
	l := room[:2]
	for n := -1; n <= 10; n++ {
		want := n == 1 || n == 2 || n == 5 || n == 6
		if got := nums.Has(l, n); got != want {
			t.Errorf("P203: Has looks at spare room: %d: %v", n, got)
		}
	}
	if !slices.Equal(room, was) {
		t.Errorf("P203: %v has become %v", was, room)
	}
	l[0] = api.Range{From: 3, To: 3}
	if nums.Has(l, 5) || !nums.Has(l, 3) {
		t.Error("P203: what was handed in earlier is kept")
	}
}

func TestAnswersHangOnArgumentsAlone(t *testing.T) {
	all := []string{"", "0", "7", "12", "3-4", "1,2", "x", "2147483649", "7"}
	for _, a := range all {
		for _, b := range all {
			checkRead(t, a, 0)
			checkRanges(t, a)
			nums.Read(b, 0)
			nums.Ranges(b)
			nums.Put(len(b) - 5)
			nums.Has([]api.Range{{From: 1, To: len(b)}}, 2)
			checkRead(t, a, 0)
			checkRanges(t, a)
			if nums.Has(nil, 3) != true || nums.Put(42) != "42" {
				t.Errorf("P203: behind %q the answers are others", b)
			}
		}
	}
}
