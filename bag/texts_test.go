package bag_test

import (
	"encoding/binary"
	"fmt"
	"math/rand/v2"
	"regexp"
	"slices"
	"strings"
	"testing"

	"afterword/api"
	"afterword/bag"
)

// textOf is the text by the definition.
func textOf(b api.Bag) string {
	var l []string
	for _, x := range b {
		l = append(l, fmt.Sprintf("%d %d %d %d", x.Rec.At, x.Rec.Key, x.Rec.Val, x.N))
	}
	return strings.Join(l, "; ")
}

const numberOfText = "(0|-?[1-9][0-9]{0,10})"

var itemOfText = regexp.MustCompile("^" + strings.Repeat(numberOfText+" ", 3) + numberOfText + "$")

// inText is what a text says, and whether it is that of a formed bag.
func inText(s string) (api.Bag, bool) {
	if s == "" {
		return nil, true
	}
	for x := range strings.SplitSeq(s, "; ") {
		if !itemOfText.MatchString(x) {
			return nil, false
		}
	}
	b := of(s)
	return b, isBag(b)
}

// bytesOf are the bytes by the definition; numbers and integers are those of encoding/binary.
func bytesOf(b api.Bag) []byte {
	out := binary.AppendUvarint(nil, uint64(len(b)))
	for i, x := range b {
		if i == 0 {
			out = binary.AppendUvarint(out, uint64(x.Rec.At))
		} else {
			out = binary.AppendUvarint(out, uint64(x.Rec.At-b[i-1].Rec.At))
		}
		switch {
		case i > 0 && b[i-1].Rec.At == x.Rec.At && b[i-1].Rec.Key == x.Rec.Key:
			out = binary.AppendUvarint(append(out, 0), uint64(x.Rec.Val-b[i-1].Rec.Val))
		case i > 0 && b[i-1].Rec.At == x.Rec.At:
			out = binary.AppendUvarint(out, uint64(x.Rec.Key-b[i-1].Rec.Key))
			out = binary.AppendVarint(out, int64(x.Rec.Val))
		default:
			out = binary.AppendVarint(out, int64(x.Rec.Key))
			out = binary.AppendVarint(out, int64(x.Rec.Val))
		}
		out = binary.AppendVarint(out, int64(x.N))
	}
	return out
}

// inBytes is what bytes say, and whether they are those of a formed bag; what else a number could be written as shows when it is written again.
func inBytes(l []byte) (api.Bag, bool) {
	rest := l
	number := func() int {
		n, size := binary.Uvarint(rest)
		rest = rest[max(size, 0):]
		return int(n)
	}
	integer := func() int {
		n, size := binary.Varint(rest)
		rest = rest[max(size, 0):]
		return int(n)
	}
	count := number()
	if count < 0 || count > 300 {
		return nil, false
	}
	var b api.Bag
	for i := range count {
		x := item(number(), 0, 0, 0)
		if i > 0 {
			x.Rec.At += b[i-1].Rec.At
		}
		if i > 0 && x.Rec.At == b[i-1].Rec.At {
			x.Rec.Key = b[i-1].Rec.Key + number()
		} else {
			x.Rec.Key = integer()
		}
		if i > 0 && x.Rec.At == b[i-1].Rec.At && x.Rec.Key == b[i-1].Rec.Key {
			x.Rec.Val = b[i-1].Rec.Val + number()
		} else {
			x.Rec.Val = integer()
		}
		x.N = integer()
		b = append(b, x)
	}
	return b, isBag(b) && slices.Equal(bytesOf(b), l)
}

func someBags(seed uint64, count int) []api.Bag {
	out := edgeBags()
	twoBags(seed, count, func(_ *rand.Rand, a, b api.Bag) { out = append(out, a, b) })
	return append(out, of(exampleB), of(exampleC))
}

// checkText asks what a text is read as.
func checkText(t *testing.T, s string) {
	t.Helper()
	want, ok := inText(s)
	got, e := bag.Parse(s)
	if ok {
		mustBe(t, e == api.OK && equal(got, want), s, got, e)
	} else {
		mustBe(t, e == api.ErrText && len(got) == 0, s, got, e)
	}
}

// checkBytes asks what bytes are read as.
func checkBytes(t *testing.T, l []byte) {
	t.Helper()
	want, ok := inBytes(l)
	got, e := bag.Read(l)
	if ok {
		mustBe(t, e == api.OK && equal(got, want), l, got, e)
	} else {
		mustBe(t, e == api.ErrText && len(got) == 0, l, got, e)
	}
}

// P4.6: a bag has one text, and one row of bytes, and comes back from them.
func TestThereAndBack(t *testing.T) {
	for _, b := range someBags(53, 1500) {
		s, e := bag.Print(b)
		mustBe(t, e == api.OK && s == textOf(b), b, s, e)
		again, e := bag.Parse(s)
		mustBe(t, e == api.OK && equal(again, b), b, s, again, e)
		l, e := bag.Bytes(b)
		mustBe(t, e == api.OK && equal(l, bytesOf(b)), b, l, e)
		again, e = bag.Read(l)
		mustBe(t, e == api.OK && equal(again, b), b, l, again, e)
	}
}

// P4.6
func TestPrint(t *testing.T) {
	for _, s := range []string{exampleB, exampleC, "", "0 0 0 1", "200 -1000000000 1000000000 -1000000"} {
		got, e := bag.Print(of(s))
		mustBe(t, e == api.OK && got == s, s, got, e)
	}
}

// P4.6
func TestParse(t *testing.T) {
	for _, s := range []string{"", exampleB, exampleC, "0 0 0 1", "0 0 0 -1", "200 -1000000000 1000000000 -1000000", "10 20 30 40"} {
		got, e := bag.Parse(s)
		mustBe(t, e == api.OK && equal(got, of(s)), s, got, e)
	}
	for _, s := range []string{
		"1 2 3 0", "01 2 3 1", "4 0 0 1; 1 2 3 1", "1 2 3 1; 1 2 3 1", "-0 2 3 1", "1 -0 3 1", "1 2 3 +1", "1 2 00 1", "1 2 -03 1", "1 2 3 -0", "1 2 3 01",
		" ", ";", "; ", "1", "1 2", "1 2 3", "1 2 3 ", "1 2 3 1 ", " 1 2 3 1", "1 2 3 1;", "1 2 3 1; ", "; 1 2 3 1", "1  2 3 1", "1 2 3 1;2 2 3 1", "1 2 3 1 ; 2 2 3 1",
		"1 2 3 1;  2 2 3 1", "1 2 3 1; ; 2 2 3 1", "1 2 3 1\n", "1\t2 3 1", "1 2 3 1 5", "1 2 3 1; 2", "1, 2, 3, 1", "1 2 3 1,2 2 3 1", "1 2 3 1 2 2 3 1", "1;2 3 1", "1 2 3;1",
		"1 2 3 1.0", "1 2 3 1e3", "1 2 3 0x1", "1 2 3 1_0", "1 2 3 --1", "1 2 3 -", "a", "1 2 3 ١", "1 2 3 1\x00",
		"-1 2 3 1", "201 2 3 1", "1 1000000001 3 1", "1 -1000000001 3 1", "1 2 1000000001 1", "1 2 -1000000001 1", "1 2 3 1000001", "1 2 3 -1000001",
		"1 2 3 18446744073709551617", "1 18446744073709551618 3 1", "18446744073709551617 2 3 1", "1 2 -18446744073709551613 1", "1 2 3 9223372036854775808", "1 2 3 -9223372036854775808",
		textOf(wide(301, 1)), strings.Repeat("1", 100000), strings.Repeat("1 2 3 1; ", 100000), strings.Repeat(" ", 100000), strings.Repeat("-", 100000),
	} {
		got, e := bag.Parse(s)
		mustBe(t, e == api.ErrText && len(got) == 0, s, got, e)
	}
}

// P4.6: texts with a few bytes put in, left out or changed.
func TestSpoiledTexts(t *testing.T) {
	r := rand.New(rand.NewPCG(54, 4))
	for _, b := range someBags(54, 1500) {
		if len(b) > 30 {
			continue
		}
		for range 8 {
			s := textOf(b)
			for range 1 + r.IntN(2) {
				at := r.IntN(len(s) + 1)
				to := min(len(s), at+r.IntN(3))
				s = s[:at] + pick(r, []string{"", "0", "1", "-", " ", ";", "; ", "9", "x", "0 "}) + s[to:]
			}
			checkText(t, s)
		}
	}
}

// P4.6
func TestBytes(t *testing.T) {
	for _, x := range []struct {
		b    string
		want []byte
	}{
		{"", []byte{0}},
		{exampleC, []byte{2, 1, 4, 6, 1, 1, 4, 14, 6}},
		{"0 0 0 1", []byte{1, 0, 0, 0, 2}},
		{"0 0 0 1; 0 0 1 1; 0 1 0 1; 1 0 0 1", []byte{4, 0, 0, 0, 2, 0, 0, 1, 2, 0, 1, 0, 2, 1, 0, 0, 2}},
		{"127 63 -64 64; 200 64 -65 1", []byte{2, 127, 126, 127, 128, 1, 73, 128, 1, 129, 1, 2}},
		{"128 0 0 1", []byte{1, 128, 1, 0, 0, 2}},
		{"3 -1000000000 0 1; 3 1000000000 0 1", []byte{2, 3, 255, 167, 214, 185, 7, 0, 2, 0, 128, 168, 214, 185, 7, 0, 2}},
		{"3 5 -1000000000 1; 3 5 1000000000 1", []byte{2, 3, 10, 255, 167, 214, 185, 7, 2, 0, 0, 128, 168, 214, 185, 7, 2}},
		{"0 0 0 -1000000; 0 0 8192 1000000", []byte{2, 0, 0, 0, 255, 136, 122, 0, 0, 128, 64, 128, 137, 122}},
	} {
		l, e := bag.Bytes(of(x.b))
		mustBe(t, e == api.OK && equal(l, x.want), x, l, e)
		b, e := bag.Read(x.want)
		mustBe(t, e == api.OK && equal(b, of(x.b)), x, b, e)
	}
	l, e := bag.Bytes(wide(300, 1))
	mustBe(t, e == api.OK && l[0] == 172 && l[1] == 2, l, e)
}

// P4.6
func TestRead(t *testing.T) {
	long := bytesOf(wide(301, 1))
	for _, l := range [][]byte{
		nil, {}, {1}, {1, 0}, {1, 0, 0}, {1, 0, 0, 0}, {2, 0, 0, 0, 2}, // too few
		{0, 0}, {1, 0, 0, 0, 2, 0}, {0, 1, 0, 0, 2}, // too many
		{128}, {128, 0}, {129, 0}, {129, 128, 0}, {1, 128, 0, 0, 0, 2}, {1, 0, 130, 0, 0, 2}, {1, 0, 0, 0, 130, 0}, {1, 0, 0, 0, 130, 128, 128, 128, 0}, // a last group that is 0
		{1, 0, 128, 128, 128, 128, 128, 1, 0, 2}, {128, 128, 128, 128, 128, 0}, {129, 128, 128, 128, 128, 0, 0, 0, 0, 2}, // too many groups
		{255, 255, 255, 255, 255, 255, 255, 255, 255, 1}, {255, 255, 255, 255, 127}, {1, 255, 255, 255, 255, 127, 0, 0, 2},
		{1, 0, 0, 0, 0}, {2, 0, 0, 0, 2, 0, 0, 0, 2}, {2, 0, 0, 0, 2, 0, 0, 1, 0}, // not there; twice the same
		{1, 201, 1, 0, 0, 2}, {2, 200, 1, 0, 0, 2, 1, 0, 0, 2}, {1, 0, 130, 168, 214, 185, 7, 0, 2}, {1, 0, 129, 168, 214, 185, 7, 0, 2}, {1, 0, 0, 130, 168, 214, 185, 7, 2}, {1, 0, 0, 129, 168, 214, 185, 7, 2}, // beyond
		{1, 0, 0, 0, 130, 137, 122}, {1, 0, 0, 0, 129, 137, 122}, {2, 3, 0, 0, 2, 0, 129, 148, 235, 220, 3, 0, 2}, {2, 3, 0, 0, 2, 0, 0, 129, 148, 235, 220, 3, 2},
		long, long[:len(long)-1], slices.Repeat([]byte{255}, 100000), make([]byte, 100000), slices.Repeat([]byte{1}, 100000), append([]byte{255, 255, 255, 255, 127}, slices.Repeat([]byte{1, 2, 2, 2}, 50000)...),
	} {
		got, e := bag.Read(l)
		mustBe(t, e == api.ErrText && len(got) == 0, l, got, e)
	}
	for _, l := range [][]byte{{0}, {1, 200, 1, 0, 0, 2}, {2, 3, 0, 0, 2, 0, 128, 148, 235, 220, 3, 0, 2}, {2, 3, 0, 0, 2, 0, 0, 128, 148, 235, 220, 3, 2}} {
		_, e := bag.Read(l)
		mustBe(t, e == api.OK, l, e)
		checkBytes(t, l)
	}
}

// P4.6: bytes with a few put in, left out or changed; all short rows of some bytes.
func TestSpoiledBytes(t *testing.T) {
	r := rand.New(rand.NewPCG(55, 4))
	for _, b := range someBags(55, 1500) {
		if len(b) > 30 {
			continue
		}
		for range 8 {
			l := bytesOf(b)
			for range 1 + r.IntN(2) {
				at := r.IntN(len(l) + 1)
				to := min(len(l), at+r.IntN(3))
				in := []byte{byte(r.IntN(256)), pick(r, []byte{0, 1, 2, 127, 128, 129, 255})}[:r.IntN(3)]
				l = slices.Concat(l[:at], in, l[to:])
			}
			checkBytes(t, l)
		}
	}
	var try func(l []byte)
	try = func(l []byte) {
		checkBytes(t, l)
		if len(l) < 9 {
			for _, b := range []byte{0, 1, 2, 128} {
				try(append(slices.Clone(l), b))
			}
		}
	}
	try(nil)
}
