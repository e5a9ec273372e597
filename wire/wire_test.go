package wire

import (
	"encoding/binary"
	"math"
	"math/rand"
	"slices"
	"strings"
	"testing"

	"cotillion/api"
	"cotillion/sums"
)

// nine bytes that all say that more comes: ahead of the tenth one of a number.
const nine = "\xff\xff\xff\xff\xff\xff\xff\xff\xff"

// anyText: bytes of all kinds, the same ones on every run.
func anyText(r *rand.Rand, most int) string {
	b := make([]byte, r.Intn(most+1))
	r.Read(b)
	return string(b)
}

// anyNum: numbers of all lengths.
func anyNum(r *rand.Rand) uint64 {
	return r.Uint64() >> r.Intn(64)
}

// edges: the numbers at which a spelling gets one byte more, and those beside them.
func edges() []uint64 {
	l := []uint64{0, 1, 2, 300, math.MaxInt64, 1 << 63, math.MaxUint64 - 1, math.MaxUint64}
	for k := 7; k < 64; k += 7 {
		n := uint64(1) << k
		l = append(l, n-1, n, n+1)
	}
	return l
}

// --- Out ---

func TestVersion(t *testing.T) {
	if Version != 7 {
		t.Errorf("Version: %d", Version)
	}
}

// P2.1: how Num, Int, Count, Str and Raw spell.
func TestSpellings(t *testing.T) {
	for _, c := range []struct {
		name string
		put  func(o *Out) *Out
		want string
	}{
		{"Num 0", func(o *Out) *Out { return o.Num(0) }, "\x00"},
		{"Num 127", func(o *Out) *Out { return o.Num(127) }, "\x7f"},
		{"Num 128", func(o *Out) *Out { return o.Num(128) }, "\x80\x01"},
		{"Num 300", func(o *Out) *Out { return o.Num(300) }, "\xac\x02"},
		{"Num 2^14-1", func(o *Out) *Out { return o.Num(1<<14 - 1) }, "\xff\x7f"},
		{"Num 2^14", func(o *Out) *Out { return o.Num(1 << 14) }, "\x80\x80\x01"},
		{"Num 2^63-1", func(o *Out) *Out { return o.Num(1<<63 - 1) }, nine[:8] + "\x7f"},
		{"Num 2^63", func(o *Out) *Out { return o.Num(1 << 63) }, "\x80\x80\x80\x80\x80\x80\x80\x80\x80\x01"},
		{"Num 2^64-1", func(o *Out) *Out { return o.Num(1<<64 - 1) }, nine + "\x01"},
		{"Num of three", func(o *Out) *Out { return o.Num(1, 300, 0) }, "\x01\xac\x02\x00"},
		{"Num of none", func(o *Out) *Out { return o.Num() }, ""},
		{"Int 0", func(o *Out) *Out { return o.Int(0) }, "\x00"},
		{"Int -1", func(o *Out) *Out { return o.Int(-1) }, "\x01"},
		{"Int 1", func(o *Out) *Out { return o.Int(1) }, "\x02"},
		{"Int -64", func(o *Out) *Out { return o.Int(-64) }, "\x7f"},
		{"Int 64", func(o *Out) *Out { return o.Int(64) }, "\x80\x01"},
		{"Int 2^63-1", func(o *Out) *Out { return o.Int(math.MaxInt64) }, "\xfe" + nine[1:] + "\x01"},
		{"Int -2^63", func(o *Out) *Out { return o.Int(math.MinInt64) }, nine + "\x01"},
		{"Int of three", func(o *Out) *Out { return o.Int(-2, 2, -3) }, "\x03\x04\x05"},
		{"Int of none", func(o *Out) *Out { return o.Int() }, ""},
		{"Count 3, 300", func(o *Out) *Out { return o.Count(3, 300) }, "\x03\xac\x02"},
		{"Count below 0", func(o *Out) *Out { return o.Count(-1, 2, math.MinInt) }, "\x00\x02\x00"},
		{"Count of the greatest", func(o *Out) *Out { return o.Count(math.MaxInt) }, nine[:8] + "\x7f"},
		{"Count of none", func(o *Out) *Out { return o.Count() }, ""},
		{"Str", func(o *Out) *Out { return o.Str("ab") }, "\x02ab"},
		{"Str of three", func(o *Out) *Out { return o.Str("", "\xff\x00", "é") }, "\x00\x02\xff\x00\x02\xc3\xa9"},
		{"Str of 128 bytes", func(o *Out) *Out { return o.Str(strings.Repeat("x", 128)) }, "\x80\x01" + strings.Repeat("x", 128)},
		{"Str of none", func(o *Out) *Out { return o.Str() }, ""},
		{"Raw", func(o *Out) *Out { return o.Raw("a\x00\xff") }, "a\x00\xff"},
		{"Raw of nothing", func(o *Out) *Out { return o.Raw("") }, ""},
	} {
		var o Out
		if p := c.put(&o); p != &o {
			t.Errorf("%s: another Out is answered", c.name)
		}
		if s := o.Text(); s != c.want {
			t.Errorf("%s: %x, not %x", c.name, s, c.want)
		}
		if c.put(&o); o.Text() != c.want+c.want {
			t.Errorf("%s, twice: %x", c.name, o.Text())
		}
	}
}

// P2.1: each call puts behind what is there.
func TestOutGrows(t *testing.T) {
	var o Out
	if s := o.Text(); s != "" {
		t.Errorf("the zero Out: %x", s)
	}
	o.Raw("a").Num(1).Int(-2).Count(3).Str("b").Raw("c")
	if s := o.Text(); s != "a\x01\x03\x03\x01bc" {
		t.Errorf("Text: %x", s)
	}
}

// K3: a text that was answered doesn't change with later calls, nor do lists that are handed in.
func TestOutShares(t *testing.T) {
	var o Out
	o.Raw("abc")
	ahead := o.Text()
	nums, counts, ints, strs := []uint64{1, 300}, []int{-1, 2}, []int64{-1, 2}, []string{"x", ""}
	o.Num(nums...).Count(counts...).Int(ints...).Str(strs...)
	if ahead != "abc" || o.Text() != o.Text() {
		t.Errorf("Text: %x", ahead)
	}
	if !slices.Equal(nums, []uint64{1, 300}) || !slices.Equal(counts, []int{-1, 2}) || !slices.Equal(ints, []int64{-1, 2}) || !slices.Equal(strs, []string{"x", ""}) {
		t.Error("a list has changed")
	}
	nums[0], strs[0] = 9, "y"
	if s := o.Text(); s != "abc\x01\xac\x02\x00\x02\x01\x04\x01x\x00" {
		t.Errorf("Text: %x", s)
	}
}

// --- In ---

// P2.1: what Num answers, or tells, and what is left.
func TestNum(t *testing.T) {
	for _, c := range []struct {
		s    string
		want uint64
		left int
		err  api.Errno
	}{
		{"\x00", 0, 0, api.OK},
		{"\x00\x00", 0, 1, api.OK},
		{"\x7fz", 127, 1, api.OK},
		{"\xac\x02zz", 300, 2, api.OK},
		{nine[:8] + "\x7f", 1<<63 - 1, 0, api.OK},
		{nine + "\x01", math.MaxUint64, 0, api.OK},
		{nine + "\x01\x00", math.MaxUint64, 1, api.OK},
		{"", 0, 0, api.ErrEnd},
		{"\x80", 0, 0, api.ErrEnd},
		{"\xac\x82", 0, 0, api.ErrEnd},
		{nine, 0, 0, api.ErrEnd},
		{"\x80\x00", 0, 0, api.ErrForm},
		{"\xff\x00zz", 0, 0, api.ErrForm},
		{"\xff\x80\x00\x01", 0, 0, api.ErrForm},
		{nine[:8] + "\x00", 0, 0, api.ErrForm},
		{nine + "\x00", 0, 0, api.ErrForm},
		{nine + "\x02", 0, 0, api.ErrForm},
		{nine + "\x7f", 0, 0, api.ErrForm},
		{nine + "\x80", 0, 0, api.ErrForm}, // though nothing stands behind it
		{nine + "\x81", 0, 0, api.ErrForm},
		{nine + "\x81\x00", 0, 0, api.ErrForm},
		{nine + "\xff\x01", 0, 0, api.ErrForm},
	} {
		i := Open(c.s)
		if n := i.Num(); n != c.want || i.Err() != c.err || i.Len() != c.left {
			t.Errorf("Num of %x: %d, error %d, left %d", c.s, n, i.Err(), i.Len())
		}
		i = Open(c.s)
		if i.Count(math.MaxInt); c.want <= math.MaxInt && i.Err() != c.err || c.want > math.MaxInt && i.Err() != api.ErrBig {
			t.Errorf("Count of %x: %d", c.s, i.Err())
		}
		i = Open(c.s)
		if i.Int(); i.Err() != c.err || i.Len() != c.left {
			t.Errorf("Int of %x: error %d, left %d", c.s, i.Err(), i.Len())
		}
		i = Open(c.s)
		if n := i.Count(-1); n != 0 || c.err != api.OK && i.Err() != c.err {
			t.Errorf("Count(-1) of %x: %d, error %d", c.s, n, i.Err())
		}
	}
}

func TestInt(t *testing.T) {
	for _, c := range []struct {
		s    string
		want int64
	}{
		{"\x00", 0}, {"\x01", -1}, {"\x02", 1}, {"\x03", -2}, {"\x7f", -64}, {"\x80\x01", 64},
		{"\xfe" + nine[1:] + "\x01", math.MaxInt64},
		{nine + "\x01", math.MinInt64},
	} {
		i := Open(c.s)
		if n := i.Int(); n != c.want || i.End() != api.OK {
			t.Errorf("Int of %x: %d, error %d", c.s, n, i.Err())
		}
	}
}

func TestCount(t *testing.T) {
	for _, c := range []struct {
		s    string
		most int
		want int
		err  api.Errno
	}{
		{"\x08", 8, 8, api.OK},
		{"\x07", 8, 7, api.OK},
		{"\x09", 8, 0, api.ErrBig},
		{"\x00", 0, 0, api.OK},
		{"\x01", 0, 0, api.ErrBig},
		{"\x00", -1, 0, api.OK},
		{"\x01", -1, 0, api.ErrBig},
		{"\x01", math.MinInt, 0, api.ErrBig},
		{nine[:8] + "\x7f", math.MaxInt, math.MaxInt, api.OK},
		{"\x80\x80\x80\x80\x80\x80\x80\x80\x80\x01", math.MaxInt, 0, api.ErrBig},
		{nine + "\x01", math.MaxInt, 0, api.ErrBig},
		{nine + "\x01", 8, 0, api.ErrBig},
		{"\x89\x00", 8, 0, api.ErrForm},
		{"\x89", 8, 0, api.ErrEnd},
	} {
		i := Open(c.s + "z")
		if c.err == api.ErrEnd {
			i = Open(c.s)
		}
		left := 1
		if c.err != api.OK {
			left = 0
		}
		if n := i.Count(c.most); n != c.want || i.Err() != c.err || i.Len() != left {
			t.Errorf("Count(%d) of %x: %d, error %d, left %d", c.most, c.s, n, i.Err(), i.Len())
		}
	}
}

func TestRaw(t *testing.T) {
	for _, c := range []struct {
		n    int
		want string
		left int
		err  api.Errno
	}{
		{0, "", 3, api.OK},
		{1, "a", 2, api.OK},
		{3, "a\x00\xff", 0, api.OK},
		{-1, "", 3, api.OK},
		{math.MinInt, "", 3, api.OK},
		{4, "", 0, api.ErrEnd},
		{math.MaxInt, "", 0, api.ErrEnd},
	} {
		i := Open("a\x00\xff")
		if s := i.Raw(c.n); s != c.want || i.Len() != c.left || i.Err() != c.err {
			t.Errorf("Raw(%d): %x, error %d, left %d", c.n, s, i.Err(), i.Len())
		}
	}
	i := Open("abc")
	if i.Raw(1) != "a" || i.Raw(0) != "" || i.Raw(2) != "bc" || i.Raw(0) != "" || i.Err() != api.OK {
		t.Errorf("Raw, piece by piece: %d", i.Err())
	}
	if i.Raw(1) != "" || i.Err() != api.ErrEnd {
		t.Errorf("Raw of nothing: %d", i.Err())
	}
}

func TestStr(t *testing.T) {
	for _, c := range []struct {
		s    string
		most int
		want string
		left int
		err  api.Errno
	}{
		{"\x02abz", 2, "ab", 1, api.OK},
		{"\x02abz", math.MaxInt, "ab", 1, api.OK},
		{"\x00z", 0, "", 1, api.OK},
		{"\x00z", -5, "", 1, api.OK},
		{"\x02abz", 1, "", 0, api.ErrBig},
		{"\x02", 1, "", 0, api.ErrBig}, // ahead of what is wanting
		{"\x01a", -1, "", 0, api.ErrBig},
		{"\x02a", 2, "", 0, api.ErrEnd},
		{"\x02", 2, "", 0, api.ErrEnd},
		{"", 2, "", 0, api.ErrEnd},
		{"\x80", 2, "", 0, api.ErrEnd},
		{"\x82\x00ab", 2, "", 0, api.ErrForm},
		{nine + "\x01ab", math.MaxInt, "", 0, api.ErrBig},
		{nine[:8] + "\x7fab", math.MaxInt, "", 0, api.ErrEnd},
	} {
		i := Open(c.s)
		if s := i.Str(c.most); s != c.want || i.Len() != c.left || i.Err() != c.err {
			t.Errorf("Str(%d) of %x: %x, error %d, left %d", c.most, c.s, s, i.Err(), i.Len())
		}
	}
}

func TestFail(t *testing.T) {
	i := Open("\x05abc")
	i.Fail(api.OK)
	if i.Err() != api.OK || i.Len() != 4 {
		t.Errorf("Fail(OK): error %d, left %d", i.Err(), i.Len())
	}
	for _, e := range []api.Errno{api.ErrEnd, api.ErrDesync, api.ErrGone, 99, -1} {
		i := Open("\x05abc")
		i.Fail(e)
		if i.Err() != e || i.Len() != 0 || i.End() != e {
			t.Errorf("Fail(%d): error %d, left %d", e, i.Err(), i.Len())
		}
	}
}

func TestEnd(t *testing.T) {
	if e := Open("").End(); e != api.OK {
		t.Errorf("End of nothing: %d", e)
	}
	i := Open("a")
	if e := i.End(); e != api.ErrForm || i.Err() != api.ErrForm || i.Len() != 0 || i.End() != api.ErrForm {
		t.Errorf("End of something: %d, then %d, left %d", e, i.Err(), i.Len())
	}
	i = Open("a")
	if i.Raw(1) != "a" || i.End() != api.OK || i.End() != api.OK || i.Err() != api.OK {
		t.Errorf("End of what was taken: %d", i.Err())
	}
	i = Open("a")
	if i.Raw(2) != "" || i.End() != api.ErrEnd {
		t.Errorf("End behind an error: %d", i.Err())
	}
}

// P2.1: whatever the first error is, it stays, nothing is left, and each call answers zero.
func TestFirstErrorStays(t *testing.T) {
	firsts := map[api.Errno]func(i *In){
		api.ErrEnd:    func(i *In) { i.Raw(99) },
		api.ErrForm:   func(i *In) { i.End() },
		api.ErrBig:    func(i *In) { i.Count(1) },
		api.ErrPlayer: func(i *In) { i.Fail(api.ErrPlayer) },
	}
	for e, first := range firsts {
		i := Open("\x02ab\x01\x01")
		first(i)
		for range 2 {
			if i.Err() != e || i.Len() != 0 {
				t.Errorf("behind %d: error %d, left %d", e, i.Err(), i.Len())
			}
			if i.Num() != 0 || i.Int() != 0 || i.Count(9) != 0 || i.Str(9) != "" || i.Raw(1) != "" || i.Raw(0) != "" || i.Raw(-1) != "" {
				t.Errorf("behind %d something is answered", e)
			}
			i.Fail(api.ErrKind)
			i.Fail(api.OK)
			if i.End() != e || i.Err() != e {
				t.Errorf("behind %d: %d", e, i.Err())
			}
		}
	}
}

// --- there and back ---

// P2.2: what was put is taken, in the same order.
func TestThereAndBack(t *testing.T) {
	r := rand.New(rand.NewSource(2))
	nums := edges()
	for range 3000 {
		nums = append(nums, anyNum(r))
	}
	for _, n := range nums {
		s := anyText(r, 300)
		var o Out
		text := o.Num(n).Int(int64(n), -int64(n)).Count(int(n>>1)).Str(s, "").Raw("end").Text()
		i := Open(text)
		if got := i.Num(); got != n {
			t.Fatalf("Num %d: %d", n, got)
		}
		if a, b := i.Int(), i.Int(); a != int64(n) || b != -int64(n) {
			t.Fatalf("Int %d, %d: %d, %d", int64(n), -int64(n), a, b)
		}
		if got := i.Count(int(n >> 1)); got != int(n>>1) {
			t.Fatalf("Count %d: %d", n>>1, got)
		}
		if a, b := i.Str(len(s)), i.Str(0); a != s || b != "" {
			t.Fatalf("Str %x: %x, %x", s, a, b)
		}
		if i.Len() != 3 || i.Raw(3) != "end" || i.End() != api.OK {
			t.Fatalf("of %d: %d", n, i.Err())
		}
	}
}

// P2.2: a text that says a number is just how Num spells it.
func TestOneSpelling(t *testing.T) {
	for a := range 256 {
		oneSpelling(t, string([]byte{byte(a)}))
		for b := range 256 {
			oneSpelling(t, string([]byte{byte(a), byte(b)}))
		}
	}
	r := rand.New(rand.NewSource(4))
	for range 200000 {
		b := make([]byte, 1+r.Intn(12))
		for k := range b {
			b[k] = byte(r.Intn(256)) | 128 // long ones: a byte of another kind is rare
			if r.Intn(8) == 0 {
				b[k] = []byte{0, 1, 2, 127, 128, 129}[r.Intn(6)]
			}
		}
		oneSpelling(t, string(b))
	}
}

// oneSpelling holds Num against the library's numbers, which take spellings with needless bytes, too.
func oneSpelling(t *testing.T, s string) {
	t.Helper()
	want, size := binary.Uvarint([]byte(s))
	shortest := size == 1 || size > 1 && s[size-1] != 0
	i := Open(s)
	n := i.Num()
	if (i.Err() == api.OK) != shortest {
		t.Fatalf("Num of %x: error %d", s, i.Err())
	}
	if !shortest {
		if n != 0 || i.Len() != 0 {
			t.Fatalf("Num of %x: %d beside an error, left %d", s, n, i.Len())
		}
		return
	}
	var o Out
	if o.Num(n); n != want || o.Text() != s[:size] || i.Len() != len(s)-size {
		t.Fatalf("Num of %x: %d, which is spelt %x, left %d", s, n, o.Text(), i.Len())
	}
}

// P2.2: no number is spelt as another one, and none of 64 bits has more than ten bytes.
func TestSpellingsAreUnlike(t *testing.T) {
	seen := map[string]uint64{}
	for n := range uint64(1 << 15) {
		spelt(t, seen, n)
	}
	for _, n := range edges() {
		spelt(t, seen, n)
	}
}

func spelt(t *testing.T, seen map[string]uint64, n uint64) {
	t.Helper()
	s := new(Out).Num(n).Text()
	if m, ok := seen[s]; ok && m != n {
		t.Fatalf("%d and %d: %x", m, n, s)
	}
	if len(s) < 1 || len(s) > 10 {
		t.Fatalf("%d: %x", n, s)
	}
	seen[s] = n
}

// --- datagrams ---

// P2.1: how a datagram is laid out.
func TestSeal(t *testing.T) {
	for _, s := range []string{"", "a", "\x00", "123456789", strings.Repeat("\xff", 300)} {
		n := sums.Crc("\x07" + s)
		want := "\x07" + string([]byte{byte(n), byte(n >> 8), byte(n >> 16), byte(n >> 24)}) + s
		if d := Seal(s); d != want {
			t.Errorf("Seal(%x): %x, not %x", s, d, want)
		}
	}
	if d := Seal(""); d != "\x07\x2e\x7a\x66\x4c" {
		t.Errorf("Seal of nothing: %x", d)
	}
}

// P2.1, K2: which error is told, ahead of which, and nothing beside it.
func TestUnseal(t *testing.T) {
	good := Seal("abc")
	for _, c := range []struct {
		s    string
		want string
		err  api.Errno
	}{
		{good, "abc", api.OK},
		{Seal(""), "", api.OK},
		{"", "", api.ErrEnd},
		{"\x07", "", api.ErrEnd},
		{good[:4], "", api.ErrEnd},
		{"\x08abc", "", api.ErrEnd}, // ahead of its version
		{"\x08abcd", "", api.ErrVersion},
		{"\x00" + good[1:], "", api.ErrVersion},
		{"\x06" + good[1:], "", api.ErrVersion},
		{"\x87" + good[1:], "", api.ErrVersion},
		{"\x07abcd", "", api.ErrSum},
		{good[:5], "", api.ErrSum},
		{good[:len(good)-1], "", api.ErrSum},
		{good + "\x00", "", api.ErrSum},
		{good + good, "", api.ErrSum},
	} {
		if s, e := Unseal(c.s); s != c.want || e != c.err {
			t.Errorf("Unseal(%x): %x, %d", c.s, s, e)
		}
	}
}

// A sum of the bytes without the version, or the other way round, isn't the datagram's.
func TestUnsealAsksForItsSum(t *testing.T) {
	n := sums.Crc("abc")
	if _, e := Unseal("\x07" + string([]byte{byte(n), byte(n >> 8), byte(n >> 16), byte(n >> 24)}) + "abc"); e != api.ErrSum {
		t.Errorf("without the version: %d", e)
	}
	n = sums.Crc("\x07abc")
	if _, e := Unseal("\x07" + string([]byte{byte(n >> 24), byte(n >> 16), byte(n >> 8), byte(n)}) + "abc"); e != api.ErrSum {
		t.Errorf("the highest first: %d", e)
	}
}

// P2.2, of datagrams.
func TestSealThereAndBack(t *testing.T) {
	r := rand.New(rand.NewSource(5))
	for range 3000 {
		s := anyText(r, 250)
		d := Seal(s)
		if len(d) != len(s)+5 {
			t.Fatalf("Seal(%x): %x", s, d)
		}
		if back, e := Unseal(d); back != s || e != api.OK {
			t.Fatalf("Unseal(%x): %x, %d", d, back, e)
		}
	}
}

// P2.3: at each place each other byte, the version's and the sum's, too.
func TestOneBentByte(t *testing.T) {
	r := rand.New(rand.NewSource(6))
	texts := []string{"", "\x00", "a", "one game", strings.Repeat("\x00", 50)}
	for range 10 {
		texts = append(texts, anyText(r, 100))
	}
	for _, s := range texts {
		d := Seal(s)
		for k := range len(d) {
			bentAt(t, d, k)
		}
	}
}

func bentAt(t *testing.T, d string, place int) {
	t.Helper()
	want := api.ErrSum
	if place == 0 {
		want = api.ErrVersion
	}
	b := []byte(d)
	for x := 1; x < 256; x++ {
		b[place] = d[place] ^ byte(x)
		if s, e := Unseal(string(b)); s != "" || e != want {
			t.Fatalf("%x, byte %d bent to %d: %x, %d", d, place, b[place], s, e)
		}
	}
}

// --- all calls, of anything ---

// K4, K6: no bytes and no arguments make a call panic, and the same calls are answered in the same way.
func TestAnyCalls(t *testing.T) {
	for seed := range int64(3000) {
		if a, b := anyCalls(seed), anyCalls(seed); a != b {
			t.Fatalf("calls of %d: %x and %x", seed, a, b)
		}
	}
}

// anyCalls: calls by chance on bytes by chance, and all that they answer.
func anyCalls(seed int64) string {
	r := rand.New(rand.NewSource(seed))
	i := Open(anyText(r, 40))
	var o Out
	arg := func() int {
		return []int{math.MinInt, -1, 0, 1, 2, 7, 40, math.MaxInt}[r.Intn(8)]
	}
	for range 12 {
		switch r.Intn(8) {
		case 0:
			o.Num(i.Num())
		case 1:
			o.Int(i.Int())
		case 2:
			o.Count(i.Count(arg()), arg())
		case 3:
			o.Str(i.Str(arg()))
		case 4:
			o.Raw(i.Raw(arg()))
		case 5:
			o.Count(i.Len())
		case 6:
			s, e := Unseal(anyText(r, 9))
			o.Str(s).Int(int64(e))
		case 7:
			if r.Intn(9) == 0 {
				i.Fail(api.Errno(arg()))
			}
		}
		o.Int(int64(i.Err()))
	}
	return o.Int(int64(i.End())).Text()
}

// A long text: nothing is cut off at a limit of its own.
func TestLongText(t *testing.T) {
	s := strings.Repeat("abc\xff", 1<<18)
	i := Open(new(Out).Str(s).Text())
	if i.Str(len(s)) != s || i.End() != api.OK {
		t.Errorf("Str of %d bytes: %d", len(s), i.Err())
	}
	if back, e := Unseal(Seal(s)); back != s || e != api.OK {
		t.Errorf("Unseal of %d bytes: %d", len(s), e)
	}
}
