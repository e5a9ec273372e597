package sums

import (
	"hash/crc32"
	"hash/fnv"
	"math/rand"
	"slices"
	"strings"
	"testing"
)

// anyText: bytes of all kinds, the same ones on every run.
func anyText(r *rand.Rand, most int) string {
	b := make([]byte, r.Intn(most+1))
	for k := range b {
		b[k] = byte(r.Intn(256))
	}
	return string(b)
}

func TestStart(t *testing.T) {
	if uint64(Start) != 14695981039346656037 || Start != 0xcbf29ce484222325 {
		t.Errorf("Start: %x", uint64(Start))
	}
}

// P1.1: Of and Crc, of texts whose sums are known.
func TestKnownSums(t *testing.T) {
	for _, c := range []struct {
		text string
		of   uint64
		crc  uint32
	}{
		{"", 0xcbf29ce484222325, 0},
		{"a", 0xaf63dc4c8601ec8c, 0xe8b7be43},
		{"foobar", 0x85944171f73967e8, 0x9ef61f95},
		{"123456789", 0x06d5573923c6cdfc, 0xcbf43926},
		{"\x00", 0xaf63bd4c8601b7df, 0xd202ef8d},
		{"\xff", 0xaf64724c8602eb6e, 0xff000000},
		{"\xff\xff\xff\xff", 0x994f76653e2a3951, 0xffffffff},
		{"\x00\x00\x00\x00", 0x4d25767f9dce13f5, 0x2144df1c},
		{"é", 0x0ac21707b7181e01, 0x0e048d3e}, // two bytes, one rune
	} {
		if n := Of(c.text); n != c.of {
			t.Errorf("Of(%q): %x, not %x", c.text, n, c.of)
		}
		if n := Crc(c.text); n != c.crc {
			t.Errorf("Crc(%q): %x, not %x", c.text, n, c.crc)
		}
	}
}

// P1.1: all four calls, against the library's sums.
func TestAgainstLibrary(t *testing.T) {
	r := rand.New(rand.NewSource(1))
	for range 3000 {
		s, more := anyText(r, 70), anyText(r, 70)
		h := fnv.New64a()
		h.Write([]byte(s))
		if Of(s) != h.Sum64() || Start.Add(s) != Fnv(h.Sum64()) {
			t.Fatalf("Of(%x): %x", s, Of(s))
		}
		if Crc(s) != crc32.ChecksumIEEE([]byte(s)) {
			t.Fatalf("Crc(%x): %x", s, Crc(s))
		}
		sum := r.Uint32() // one of no known bytes goes on as well
		if More(sum, more) != crc32.Update(sum, crc32.IEEETable, []byte(more)) {
			t.Fatalf("More(%x, %x): %x", sum, more, More(sum, more))
		}
	}
}

// P1.1: Add goes on from any sum, not just from one of bytes.
func TestAddToAnySum(t *testing.T) {
	for _, c := range []struct {
		from Fnv
		text string
		want Fnv
	}{
		{0, "", 0},
		{0, "\x00", 0},
		{0, "\x01", 1099511628211},
		{1, "\x01", 0},
		{1 << 63, "\x00", 1 << 63}, // what is above 64 bits goes
		{^Fnv(0), "\x00", ^Fnv(1099511628211 - 1)},
	} {
		if f := c.from.Add(c.text); f != c.want {
			t.Errorf("%d.Add(%q): %d", c.from, c.text, f)
		}
	}
}

// K1: no list, an empty one, and one of empty texts are all no bytes.
func TestNoBytes(t *testing.T) {
	for _, l := range [][]string{nil, {}, {""}, {"", "", ""}} {
		if Of(l...) != uint64(Start) || Crc(l...) != 0 {
			t.Errorf("of %q: %x, %x", l, Of(l...), Crc(l...))
		}
		if f := Fnv(77).Add(l...); f != 77 {
			t.Errorf("77.Add(%q): %d", l, f)
		}
		for _, sum := range []uint32{0, 1, 0xcbf43926, 1<<32 - 1} {
			if n := More(sum, l...); n != sum {
				t.Errorf("More(%x, %q): %x", sum, l, n)
			}
		}
	}
}

// P1.2: wherever a text is cut, in one list or in calls one behind the other.
func TestParts(t *testing.T) {
	const s = "\x00one \xffgame\x80, \x00many\xfe"
	of, crc := Of(s), Crc(s)
	for i := range len(s) + 1 {
		for k := i; k <= len(s); k++ {
			a, b, c := s[:i], s[i:k], s[k:]
			if Of(a, b, c) != of || Of(a, "", b+c) != of || Crc(a, b, c) != crc || Crc(a+b, "", c) != crc {
				t.Fatalf("a list of %q, %q, %q", a, b, c)
			}
			if Start.Add(a).Add(b).Add(c) != Fnv(of) || Fnv(Of(a)).Add(b, c) != Fnv(of) {
				t.Fatalf("Add of %q, %q, %q", a, b, c)
			}
			if More(More(Crc(a), b), c) != crc || More(Crc(a), b, c) != crc || More(0, a, b, c) != crc {
				t.Fatalf("More of %q, %q, %q", a, b, c)
			}
		}
	}
	var single []string
	for k := range len(s) {
		single = append(single, s[k:k+1])
	}
	if Of(single...) != of || Crc(single...) != crc {
		t.Error("one by one")
	}
}

// The sum is of the bytes in their order, not of which bytes there are.
func TestOrderOfParts(t *testing.T) {
	if Of("a", "b") == Of("b", "a") || Crc("a", "b") == Crc("b", "a") {
		t.Error("an order that doesn't show")
	}
}

// P1.3: at each place each other byte.
func TestOneByteAlone(t *testing.T) {
	r := rand.New(rand.NewSource(3))
	for n := 1; n <= 40; n++ {
		b := make([]byte, n)
		r.Read(b)
		for k := range b {
			oneByteAlone(t, b, k)
		}
	}
}

func TestOneByteAloneOfLongTexts(t *testing.T) {
	b := []byte(strings.Repeat("\x00", 1<<12))
	for _, k := range []int{0, 1, 1 << 11, len(b) - 1} {
		oneByteAlone(t, b, k)
	}
}

// oneByteAlone: the texts with all 256 bytes at that place have 256 sums.
func oneByteAlone(t *testing.T, text []byte, place int) {
	t.Helper()
	b := slices.Clone(text)
	seen := map[uint32]int{}
	for v := range 256 {
		b[place] = byte(v)
		sum := Crc(string(b))
		if w, ok := seen[sum]; ok {
			t.Fatalf("%d bytes, bytes %d and %d at %d: %x", len(b), w, v, place, sum)
		}
		seen[sum] = v
	}
}

// K3, K4: what is handed in stays, and a second call answers the same.
func TestListStays(t *testing.T) {
	l := []string{"a", "", "\xffb"}
	of, crc, add, more := Of(l...), Crc(l...), Fnv(5).Add(l...), More(5, l...)
	if !slices.Equal(l, []string{"a", "", "\xffb"}) {
		t.Errorf("the list is %q", l)
	}
	if Of(l...) != of || Crc(l...) != crc || Fnv(5).Add(l...) != add || More(5, l...) != more {
		t.Error("a second call answers otherwise")
	}
}
