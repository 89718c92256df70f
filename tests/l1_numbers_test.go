package tests

import (
	"math"
	"testing"

	"loop.example/wireforms/impl"
)

// notTold are numbers outside 0 to NumTop.
var notTold = []int{-1, -128, impl.NumTop + 1, 1 << 21, math.MaxInt32, math.MaxInt, math.MinInt, math.MinInt + 1}

// numBytes are numbers at the edges, with their bytes written out.
var numBytes = []struct {
	n     int
	bytes string
}{
	{0, "\x00"},
	{1, "\x01"},
	{127, "\x7f"},
	{128, "\x80\x01"},
	{129, "\x81\x01"},
	{256, "\x80\x02"},
	{300, "\xac\x02"},
	{16383, "\xff\x7f"},
	{16384, "\x80\x80\x01"},
	{16385, "\x81\x80\x01"},
	{16384 + 128, "\x80\x81\x01"},
	{999998, "\xbe\x84\x3d"},
	{999999, "\xbf\x84\x3d"},
}

// numTails are bytes that may stand behind a number.
var numTails = []string{"", "\x00", "\x01", "\x7f", "\x80", "\xff\xff", "\x80\x00", "abc"}

// slowBytes tells a number by the definition, without the program.
func slowBytes(n int) string {
	switch {
	case n < 128:
		return string([]byte{byte(n)})
	case n < 128*128:
		return string([]byte{byte(n%128) + 128, byte(n / 128)})
	default:
		return string([]byte{byte(n%128) + 128, byte(n/128%128) + 128, byte(n / 128 / 128)})
	}
}

func checkNoNumber(t *testing.T, s string) {
	t.Helper()
	if n, rest, ok := impl.NumGet(s); n != 0 || rest != "" || ok {
		t.Errorf("NumGet(%q) = %d, %q, %v, want no number", s, n, rest, ok)
	}
}

func TestNumPutEdges(t *testing.T) {
	for _, c := range numBytes {
		if s, ok := impl.NumPut(c.n); s != c.bytes || !ok {
			t.Errorf("NumPut(%d) = %q, %v, want %q", c.n, s, ok, c.bytes)
		}
		if size := impl.NumSize(c.n); size != len(c.bytes) {
			t.Errorf("NumSize(%d) = %d, want %d", c.n, size, len(c.bytes))
		}
	}
}

func TestNumPutAll(t *testing.T) {
	for n := 0; n <= impl.NumTop; n++ {
		if s, ok := impl.NumPut(n); s != slowBytes(n) || !ok {
			t.Fatalf("NumPut(%d) = %q, %v, want %q", n, s, ok, slowBytes(n))
		}
	}
}

func TestNumPutInvalid(t *testing.T) {
	for _, n := range notTold {
		if s, ok := impl.NumPut(n); s != "" || ok {
			t.Errorf("NumPut(%d) = %q, %v, want no bytes", n, s, ok)
		}
	}
}

func TestPromise1NumGetOfNumPut(t *testing.T) {
	for n := 0; n <= impl.NumTop; n++ {
		s, put := impl.NumPut(n)
		for _, tail := range numTails {
			if got, rest, ok := impl.NumGet(s + tail); !put || got != n || rest != tail || !ok {
				t.Fatalf("NumGet(%q) = %d, %q, %v, want %d, %q", s+tail, got, rest, ok, n, tail)
			}
		}
	}
}

func TestPromise2NumPutOfNumGet(t *testing.T) {
	told := 0
	check := func(s string) {
		n, rest, ok := impl.NumGet(s)
		if !ok {
			return
		}
		told++
		if put, put2 := impl.NumPut(n); put+rest != s || !put2 {
			t.Fatalf("NumPut of NumGet(%q) = %q, %v, and %q is behind", s, put, put2, rest)
		}
	}
	for a := range 256 {
		check(string([]byte{byte(a)}))
		for b := range 256 {
			check(string([]byte{byte(a), byte(b)}))
			for c := range 256 {
				check(string([]byte{byte(a), byte(b), byte(c)}))
			}
		}
	}
	one, two, three := 128, 128*128-128, impl.NumTop+1-128*128
	// Numbers with fewer bytes than there are leave any bytes behind them.
	if want := one*(1+256+256*256) + two*(1+256) + three; told != want {
		t.Errorf("NumGet told %d of all bytes up to three, want %d", told, want)
	}
}

func TestNumGetEdges(t *testing.T) {
	for _, c := range numBytes {
		for _, tail := range numTails {
			if n, rest, ok := impl.NumGet(c.bytes + tail); n != c.n || rest != tail || !ok {
				t.Errorf("NumGet(%q) = %d, %q, %v, want %d, %q", c.bytes+tail, n, rest, ok, c.n, tail)
			}
		}
	}
}

func TestNumGetLastDigitZero(t *testing.T) {
	for _, s := range []string{"\x80\x00", "\x81\x00", "\xff\x00", "\x80\x80\x00", "\x81\x80\x00", "\x80\x81\x00", "\xff\xff\x00"} {
		for _, tail := range numTails {
			checkNoNumber(t, s+tail)
		}
	}
	// A 0 that is the only digit, or not the last one, is a digit as others are.
	if n, rest, ok := impl.NumGet("\x00\x00"); n != 0 || rest != "\x00" || !ok {
		t.Errorf("NumGet of 0 = %d, %q, %v", n, rest, ok)
	}
	if n, rest, ok := impl.NumGet("\x80\x80\x3d\x00"); n != 61*16384 || rest != "\x00" || !ok {
		t.Errorf("NumGet of 61*16384 = %d, %q, %v", n, rest, ok)
	}
}

func TestNumGetEndsInTheMidst(t *testing.T) {
	checkNoNumber(t, "")
	for n := 0; n <= impl.NumTop; n++ {
		s := slowBytes(n)
		for end := range s {
			if got, rest, ok := impl.NumGet(s[:end]); got != 0 || rest != "" || ok {
				t.Fatalf("NumGet(%q) = %d, %q, %v, want no number", s[:end], got, rest, ok)
			}
		}
	}
}

func TestNumGetTooGreat(t *testing.T) {
	for n := impl.NumTop + 1; n < 128*128*128; n++ {
		if got, rest, ok := impl.NumGet(slowBytes(n) + "x"); got != 0 || rest != "" || ok {
			t.Fatalf("NumGet(%q) = %d, %q, %v, want no number", slowBytes(n)+"x", got, rest, ok)
		}
	}
	for _, s := range []string{
		"\xc0\x84\x3d", "\xff\xff\x7f", "\x80\x80\x80\x01", "\x80\x80\x80\x00", "\xbf\x84\xbd\x00", "\xff\xff\xff\x7f", "\xff\xff\xff\xff",
		"\xff\xff\xff\xff\xff\xff\xff\xff\xff\x01", "\x80\x80\x80\x80\x80\x80\x80\x80\x80\x80\x80\x01",
	} {
		checkNoNumber(t, s)
	}
}

func TestPromise3NumSize(t *testing.T) {
	for n := 0; n <= impl.NumTop; n++ {
		if size := impl.NumSize(n); size != len(slowBytes(n)) {
			t.Fatalf("NumSize(%d) = %d, want %d", n, size, len(slowBytes(n)))
		}
	}
	for _, n := range notTold {
		if size := impl.NumSize(n); size != 0 {
			t.Errorf("NumSize(%d) = %d, want 0", n, size)
		}
	}
	for n := 1; n <= 1000; n++ {
		if impl.NumSize(-n) != 0 || impl.NumSize(impl.NumTop+n) != 0 {
			t.Fatalf("NumSize has bytes for %d or %d", -n, impl.NumTop+n)
		}
	}
}

func TestFoldEdges(t *testing.T) {
	for _, c := range []struct{ n, fold int }{
		{0, 0}, {-1, 1}, {1, 2}, {-2, 3}, {2, 4}, {-3, 5}, {-64, 127}, {64, 128}, {-499999, 999997}, {499999, 999998},
	} {
		if fold, ok := impl.FoldNum(c.n); fold != c.fold || !ok {
			t.Errorf("FoldNum(%d) = %d, %v, want %d", c.n, fold, ok, c.fold)
		}
		if n, ok := impl.OpenNum(c.fold); n != c.n || !ok {
			t.Errorf("OpenNum(%d) = %d, %v, want %d", c.fold, n, ok, c.n)
		}
	}
}

func TestFoldInvalid(t *testing.T) {
	for _, n := range []int{-500000, 500000, -impl.NumTop, impl.NumTop, math.MaxInt32, math.MinInt32, math.MaxInt, math.MaxInt/2 + 1, math.MinInt / 2, math.MinInt} {
		if fold, ok := impl.FoldNum(n); fold != 0 || ok {
			t.Errorf("FoldNum(%d) = %d, %v, want no number", n, fold, ok)
		}
	}
}

func TestOpenInvalid(t *testing.T) {
	// NumTop is told, but -500000, which it would be, has no FoldNum.
	for _, n := range append([]int{impl.NumTop}, notTold...) {
		if open, ok := impl.OpenNum(n); open != 0 || ok {
			t.Errorf("OpenNum(%d) = %d, %v, want no number", n, open, ok)
		}
	}
}

func TestPromise4OpenNumOfFoldNum(t *testing.T) {
	for n := -499999; n <= 499999; n++ {
		fold, folded := impl.FoldNum(n)
		if open, ok := impl.OpenNum(fold); !folded || open != n || !ok {
			t.Fatalf("OpenNum of FoldNum(%d) = %d, %v", n, open, ok)
		}
		if fold < 0 || fold > impl.NumTop {
			t.Fatalf("FoldNum(%d) = %d, which is not told", n, fold)
		}
	}
}

func TestPromise5FoldNumOfOpenNum(t *testing.T) {
	for n := 0; n < impl.NumTop; n++ {
		open, opened := impl.OpenNum(n)
		if fold, ok := impl.FoldNum(open); !opened || fold != n || !ok {
			t.Fatalf("FoldNum of OpenNum(%d) = %d, %v", n, fold, ok)
		}
	}
}
