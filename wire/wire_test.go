package wire

import (
	"encoding/hex"
	"hash/crc32"
	"math"
	"math/rand"
	"strings"
	"testing"
	"unsafe"

	"ferryman/api"
)

// A1: numbers and their bytes, to the base 16; each both ways.
var numbers = []struct {
	n     int
	bytes string
}{
	{0, "00"},
	{1, "01"},
	{127, "7f"},
	{128, "8001"},
	{129, "8101"},
	{255, "ff01"},
	{300, "ac02"},
	{16383, "ff7f"},
	{16384, "808001"},
	{1<<56 - 1, "ffffffffffffff7f"},
	{1 << 56, "808080808080808001"},
	{math.MaxInt, "ffffffffffffffff7f"},
}

func TestNum(t *testing.T) {
	for _, c := range numbers {
		got, err := Num(c.n)
		if err != nil || hex.EncodeToString([]byte(got)) != c.bytes {
			t.Errorf("Num(%d): %x, %v; want %s", c.n, got, err, c.bytes)
		}
	}
}

func TestNumBelowNought(t *testing.T) {
	for _, n := range []int{-1, -2, -128, -300, math.MinInt + 1, math.MinInt} {
		if got, err := Num(n); got != "" || err != api.ErrBound {
			t.Errorf("Num(%d): %x, %v; want ErrBound alone", n, got, err)
		}
	}
}

func TestTakeNumbers(t *testing.T) {
	for _, c := range numbers {
		for _, behind := range []string{"", "z", "\x00", "\x80", "\xff\xff", strings.Repeat("\x80", 20)} {
			checkTake(t, unhex(t, c.bytes)+behind, c.n, behind, nil)
		}
	}
}

func TestTakeErrors(t *testing.T) {
	high := func(n int) string { return strings.Repeat("\x80", n) }
	cases := []struct {
		s    string
		want error
	}{
		{"", api.ErrEnd},
		{high(1), api.ErrEnd},
		{"\xff", api.ErrEnd},
		{high(8), api.ErrEnd},
		{high(9), api.ErrEnd},
		{high(10), api.ErrBound},
		{high(1000), api.ErrBound},
		{high(9) + "\x00", api.ErrBound},
		{high(9) + "\x01", api.ErrBound},
		{high(9) + "\x01z", api.ErrBound},
		{high(1) + "\x00", api.ErrForm},
		{"\xff\x00", api.ErrForm},
		{"\xff\x00z", api.ErrForm},
		{high(8) + "\x00", api.ErrForm},
		{high(8) + "\x00" + high(9), api.ErrForm},
	}
	for _, c := range cases {
		checkTake(t, c.s, 0, "", c.want)
	}
}

// Of all texts of three of these bytes: what is read as a number has that number's bytes.
func TestTakeReadsJustWhatNumWrites(t *testing.T) {
	edges := []byte{0, 1, 2, 64, 126, 127, 128, 129, 192, 254, 255}
	for _, a := range edges {
		for _, b := range edges {
			for _, c := range edges {
				s := string([]byte{a, b, c})
				n, rest, err := Take(s)
				if err != nil {
					continue
				}
				if back, err := Num(n); err != nil || back+rest != s {
					t.Errorf("Take(%x): %d, %x; Num of it: %x, %v", s, n, rest, back, err)
				}
			}
		}
	}
}

// A2: the sum is one that is known by other programs too.
func TestSum(t *testing.T) {
	known := map[string]uint32{
		"":          0,
		"\x00":      0xd202ef8d,
		"a":         0xe8b7be43,
		"123456789": 0xcbf43926,
	}
	for s, want := range known {
		if got := Sum(s); got != want {
			t.Errorf("Sum(%q): %08x; want %08x", s, got, want)
		}
	}
	die := rand.New(rand.NewSource(1))
	for size := range 200 {
		b := make([]byte, size)
		die.Read(b)
		if got, want := Sum(string(b)), crc32.ChecksumIEEE(b); got != want {
			t.Errorf("Sum(%x): %08x; want %08x", b, got, want)
		}
	}
}

func TestFrame(t *testing.T) {
	cases := []struct {
		kind       byte
		body, want string
	}{
		{'E', "ac02", "46593145" + "ac02" + "4ea7ba8f"},
		{'E', "", "46593145" + "" + "6f7fbd3c"},
		{0, "00", "46593100" + "00" + "7b953d82"},
		{255, "ff", "465931ff" + "ff" + "84871b3c"},
	}
	for _, c := range cases {
		if got := hex.EncodeToString([]byte(Frame(c.kind, unhex(t, c.body)))); got != c.want {
			t.Errorf("Frame(%d, %s): %s; want %s", c.kind, c.body, got, c.want)
		}
	}
}

func TestOpenAnswersTheBody(t *testing.T) {
	bodies := []string{"", "\x00", "z", "FY1E", "\xac\x02", strings.Repeat("\xff", 1000)}
	for kind := range 256 {
		for _, body := range bodies {
			got, err := Open(byte(kind), Frame(byte(kind), body))
			if err != nil || got != body {
				t.Errorf("Open of a frame of the kind %d around %x: %x, %v", kind, body, got, err)
			}
		}
	}
}

func TestOpenErrors(t *testing.T) {
	f := Frame('E', "body")
	sealed := func(s string) string { return s + sumBytes(Sum(s)) }
	cases := []struct {
		name, s string
		want    error
	}{
		{"nothing", "", api.ErrEnd},
		{"seven bytes of a frame", f[:7], api.ErrEnd},
		{"seven other bytes", "1234567", api.ErrEnd},
		{"eight other bytes", "12345678", api.ErrVersion},
		{"eight bytes of a frame", f[:8], api.ErrSum},
		{"another first byte", sealed("GY1Ebody"), api.ErrVersion},
		{"another second byte", sealed("FX1Ebody"), api.ErrVersion},
		{"another version", sealed("FY2Ebody"), api.ErrVersion},
		{"another kind", Frame('N', "body"), api.ErrVersion},
		{"another kind, and sum", Frame('N', "body") + "z", api.ErrVersion},
		{"a byte ahead", "z" + f, api.ErrVersion},
		{"a byte behind", f + "z", api.ErrSum},
		{"a byte less", f[:len(f)-1], api.ErrSum},
		{"another body", strings.Replace(f, "body", "bodz", 1), api.ErrSum},
		{"the sum's bytes the other way round", f[:8] + turned(f[8:]), api.ErrSum},
	}
	for _, c := range cases {
		if got, err := Open('E', c.s); got != "" || err != c.want {
			t.Errorf("%s: %x, %v; want %v alone", c.name, got, err, c.want)
		}
	}
}

// W4: bits within 32 that follow each other, in the order of the sum: the lowest one of each byte first.
func TestOpenRefusesTurnedBits(t *testing.T) {
	f := Frame('T', "a body of some bytes")
	die := rand.New(rand.NewSource(2))
	for from := range 8 * len(f) {
		for _, pattern := range []uint32{1, 3, 1<<31 + 1, 1<<32 - 1, die.Uint32() | 1, die.Uint32() | 1} {
			b := []byte(f)
			for i := range min(32, 8*len(f)-from) {
				at := from + i
				b[at/8] ^= byte(pattern>>i&1) << (at % 8)
			}
			if got, err := Open('T', string(b)); got != "" || err != api.ErrVersion && err != api.ErrSum {
				t.Fatalf("bits %032b turned from %d on: %x, %v", pattern, from, got, err)
			}
		}
	}
}

// Z2: what comes out is fresh memory.
func TestAnswersAreFresh(t *testing.T) {
	s := "\x05some bytes behind"
	_, rest, _ := Take(s)
	if unsafe.StringData(rest) == unsafe.StringData(s[1:]) {
		t.Error("what Take answers lies in what it was given")
	}
	f := Frame('E', s)
	body, _ := Open('E', f)
	if unsafe.StringData(body) == unsafe.StringData(f[4:]) {
		t.Error("what Open answers lies in what it was given")
	}
}

func FuzzTakeAndOpen(f *testing.F) {
	f.Add("")
	f.Add("\xac\x02z")
	f.Add(Frame('E', "\xac\x02"))
	f.Fuzz(func(t *testing.T, s string) {
		if n, rest, err := Take(s); err == nil {
			if back, err := Num(n); err != nil || back+rest != s {
				t.Errorf("Take(%x): %d, %x", s, n, rest)
			}
		}
		if body, err := Open('E', s); err == nil && Frame('E', body) != s {
			t.Errorf("Open(%x): %x", s, body)
		}
		if body, err := Open('E', Frame('E', s)); err != nil || body != s {
			t.Errorf("Open of the frame around %x: %x, %v", s, body, err)
		}
	})
}

func checkTake(t *testing.T, s string, n int, rest string, want error) {
	t.Helper()
	gotN, gotRest, err := Take(s)
	if gotN != n || gotRest != rest || err != want {
		t.Errorf("Take(%x): %d, %x, %v; want %d, %x, %v", s, gotN, gotRest, err, n, rest, want)
	}
}

func unhex(t *testing.T, s string) string {
	t.Helper()
	b, err := hex.DecodeString(s)
	if err != nil {
		t.Fatal(err)
	}
	return string(b)
}

func turned(s string) string {
	b := []byte(s)
	for i := range len(b) / 2 {
		b[i], b[len(b)-1-i] = b[len(b)-1-i], b[i]
	}
	return string(b)
}
