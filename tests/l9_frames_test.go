package tests

import (
	"math/big"
	"math/rand"
	"slices"
	"strings"
	"sync"
	"testing"
	"testing/synctest"

	"loop.example/wireforms/impl"
)

// sumCases are bytes with their sums, written out.
var sumCases = []struct {
	s   string
	sum int
}{
	{"", 1},
	{"\x00", 31},
	{"\x01", 32},
	{"_", 126},
	{"`", 127},
	{"a", 128},
	{"~", 157},
	{"\xff", 286},
	{"\x00\x00", 961},
	{"hi", 4290},
	{"ih", 4320},
	{"\xff\xff", 9121},
	{"\x00\x00\x00", 9845},
	{"abc", 6469},
	{"~\x00\x01", 1283},
	// What is left by SumMod: the most, nothing, and the sum of no bytes.
	{"\x00\x00\x7f", 9972},
	{"\x00\x00\x80", 0},
	{"\x00\x00\x81", 1},
}

// frameCases are bytes with their frames, written out.
var frameCases = []struct {
	s, frame string
}{
	{"", "~\x00\x01"},
	{"\x00", "~\x01\x00\x1f"},
	{"\x01", "~\x01\x01\x20"},
	// The sum is itself a byte 126, the greatest one of one byte, and the least one of two bytes.
	{"_", "~\x01_~"},
	{"`", "~\x01`\x7f"},
	{"a", "~\x01a\x80\x01"},
	{"~", "~\x01~\x9d\x01"},
	{"\xff", "~\x01\xff\x9e\x02"},
	{"hi", "~\x02hi\xc2\x21"},
	{"abc", "~\x03abc\xc5\x32"},
	{"\x00\x00\x7f", "~\x03\x00\x00\x7f\xf4\x4d"},
	{"\x00\x00\x80", "~\x03\x00\x00\x80\x00"},
	{"\x00\x00\x81", "~\x03\x00\x00\x81\x01"},
	// A frame in a frame.
	{"~\x00\x01", "~\x03~\x00\x01\x83\x0a"},
}

// streamTold is what a stream tells.
type streamTold struct {
	list []string
	lost int
	left string
}

// streamCases are streams with what they tell, written out.
var streamCases = []struct {
	s    string
	told streamTold
}{
	{"", streamTold{}},
	{"a", streamTold{lost: 1}},
	{"abc\x00\x7d\x7f\xff", streamTold{lost: 7}},
	{"~", streamTold{left: "~"}},
	{"abc~", streamTold{lost: 3, left: "~"}},
	{"~~", streamTold{lost: 1, left: "~"}},
	{"~~~~", streamTold{lost: 3, left: "~"}},
	// Behind a byte 126 each number up to 100 may be how many bytes there are.
	{"~\x00", streamTold{left: "~\x00"}},
	{"~a", streamTold{left: "~a"}},
	{"~d", streamTold{left: "~d"}},
	{"~e", streamTold{lost: 2}},
	{"~\x7d", streamTold{lost: 2}},
	{"~\x7f", streamTold{lost: 2}},
	{"~d~\x00\x01", streamTold{left: "~d~\x00\x01"}},
	{"~e~\x00\x01", streamTold{list: []string{""}, lost: 2}},
	// No number up to 100 begins with such a byte, whatever may come behind it.
	{"~\x80", streamTold{lost: 2}},
	{"~\xe4", streamTold{lost: 2}},
	{"~\xff", streamTold{lost: 2}},
	{"~\x80\x00", streamTold{lost: 3}},
	{"~\x80\x00\x01", streamTold{lost: 4}},
	{"~\x80\x01", streamTold{lost: 3}},
	{"~\xe4\x00", streamTold{lost: 3}},
	{"~\x80\x80\x00\x01", streamTold{lost: 5}},
	{"~\x80\x80\x80\x00\x01", streamTold{lost: 6}},
	{"~\x80\x80\x80\x80\x80\x00\x01", streamTold{lost: 8}},
	// The sum of no bytes is just a byte 1.
	{"~\x00\x01", streamTold{list: []string{""}}},
	{"~\x00\x00", streamTold{lost: 3}},
	{"~\x00\x02", streamTold{lost: 3}},
	{"~\x00\x81", streamTold{lost: 3}},
	{"~\x00\x81\x00", streamTold{lost: 4}},
	{"~\x00~", streamTold{lost: 2, left: "~"}},
	{"~\x00~\x00", streamTold{lost: 2, left: "~\x00"}},
	{"~\x00~\x00\x01", streamTold{list: []string{""}, lost: 2}},
	// A sum of two bytes is looked at byte by byte.
	{"~\x01", streamTold{left: "~\x01"}},
	{"~\x01a", streamTold{left: "~\x01a"}},
	{"~\x01a\x80", streamTold{left: "~\x01a\x80"}},
	{"~\x01a\x80\x01", streamTold{list: []string{"a"}}},
	{"~\x01a\x80\x00", streamTold{lost: 5}},
	{"~\x01a\x80\x02", streamTold{lost: 5}},
	{"~\x01a\x80\x81", streamTold{lost: 5}},
	{"~\x01a\x80\x81\x00", streamTold{lost: 6}},
	{"~\x01a\x80~", streamTold{lost: 4, left: "~"}},
	{"~\x01a\x81", streamTold{lost: 4}},
	{"~\x01a\x81\x01", streamTold{lost: 5}},
	{"~\x01a\x00", streamTold{lost: 4}},
	{"~\x01a\x7f", streamTold{lost: 4}},
	{"~\x01a~", streamTold{lost: 3, left: "~"}},
	{"~\x02hi\xc2", streamTold{left: "~\x02hi\xc2"}},
	{"~\x02hi\xc2\x21", streamTold{list: []string{"hi"}}},
	{"~\x02hi\xc2\x22", streamTold{lost: 6}},
	{"~\x02hi\xc3", streamTold{lost: 5}},
	{"~\x02ih\xc2", streamTold{lost: 5}},
	{"~\x02hi\xc2\xa1\x00", streamTold{lost: 7}},
	// One byte more or less than is told.
	{"~\x01hi\xc2\x21", streamTold{lost: 6}},
	{"~\x03hi\xc2", streamTold{left: "~\x03hi\xc2"}},
	{"~\x03hi\xc2\x21", streamTold{lost: 6}},
	{"~\x03hi\xc2\xcf", streamTold{left: "~\x03hi\xc2\xcf"}},
	{"~\x03hi\xc2\xcf\x1b", streamTold{list: []string{"hi\xc2"}}},
	{"~\x04hi\xc2\x21", streamTold{left: "~\x04hi\xc2\x21"}},
	// Sums that are 0, and that are a byte 126.
	{"~\x03\x00\x00\x80", streamTold{left: "~\x03\x00\x00\x80"}},
	{"~\x03\x00\x00\x80\x00", streamTold{list: []string{"\x00\x00\x80"}}},
	{"~\x03\x00\x00\x80\x80", streamTold{lost: 6}},
	{"~\x01_", streamTold{left: "~\x01_"}},
	{"~\x01_~", streamTold{list: []string{"_"}}},
	{"~\x01_~~\x01_~", streamTold{list: []string{"_", "_"}}},
	{"~\x01_\xfe\x00", streamTold{lost: 5}},
	// Frames next to each other, and bytes left out between them, ahead, and behind.
	{"~\x00\x01~\x00\x01", streamTold{list: []string{"", ""}}},
	{"~\x02hi\xc2\x21~\x00\x01~\x01a\x80\x01", streamTold{list: []string{"hi", "", "a"}}},
	{"x~\x02hi\xc2\x21", streamTold{list: []string{"hi"}, lost: 1}},
	{"~\x02hi\xc2\x21x", streamTold{list: []string{"hi"}, lost: 1}},
	{"ab~\x01a\x80\x01c~\x02hi\xc2\x21def", streamTold{list: []string{"a", "hi"}, lost: 6}},
	{"~~\x00\x01", streamTold{list: []string{""}, lost: 1}},
	{"~\x80~\x00\x01~\xff~", streamTold{list: []string{""}, lost: 4, left: "~"}},
	{"ab~\x01a\x80\x01c~\x02hi\xc2", streamTold{list: []string{"a"}, lost: 3, left: "~\x02hi\xc2"}},
	// A frame in a frame is not read, but where the outer one is left out.
	{"~\x03~\x00\x01\x83\x0a", streamTold{list: []string{"~\x00\x01"}}},
	{"~\x03~\x00\x01\x83", streamTold{left: "~\x03~\x00\x01\x83"}},
	{"~\x03~\x00\x01", streamTold{left: "~\x03~\x00\x01"}},
	{"~\x03~\x00\x01\x84", streamTold{list: []string{""}, lost: 3}},
	{"~\x03~\x00\x01\x83\x0b", streamTold{list: []string{""}, lost: 4}},
	{"~\x03~\x00\x02\x83\x0a", streamTold{lost: 7}},
	{"~\x04~\x00\x01\x83", streamTold{left: "~\x04~\x00\x01\x83"}},
	{"~\x04~\x00\x01\x83\x0a", streamTold{list: []string{""}, lost: 4}},
	{"~\x04~\x00\x01\x83\x0c", streamTold{list: []string{"~\x00\x01\x83"}}},
	{"~\x04~\x00\x01\x83\x0a~", streamTold{list: []string{""}, lost: 4, left: "~"}},
	// The beginning of a frame in a frame that is left out takes what is behind this.
	{"~\x02x~\x05\x00", streamTold{lost: 3, left: "~\x05\x00"}},
	{"~\x02x~\x02hi\xc2\x21", streamTold{list: []string{"hi"}, lost: 3}},
	{"~\x02x~\x06~\x00\x01~\x00\x01", streamTold{lost: 3, left: "~\x06~\x00\x01~\x00\x01"}},
	{"~\x02x~\x06~\x00\x01~\x00\x01\x00", streamTold{list: []string{"", ""}, lost: 6}},
	// Its sum begins another frame.
	{"~\x01\x00~\x00\x01", streamTold{list: []string{""}, lost: 3}},
	{"~\x01b~\x01a\x80\x01", streamTold{list: []string{"a"}, lost: 3}},
}

// slowSum tells a sum by one great number, with the bytes as its digits.
func slowSum(s string) int {
	sum := big.NewInt(1)
	for i := range len(s) {
		sum.Mul(sum, big.NewInt(31))
		sum.Add(sum, big.NewInt(int64(s[i])))
	}
	return int(sum.Mod(sum, big.NewInt(9973)).Int64())
}

// slowFrame tells the frame of bytes by the definition, without the program.
func slowFrame(s string) string {
	return "~" + slowBytes(len(s)) + s + slowBytes(slowSum(s))
}

// slowFrames tells the frames of texts.
func slowFrames(list []string) string {
	s := ""
	for _, part := range list {
		s += slowFrame(part)
	}
	return s
}

// slowFrameAt tells bytes whose frame begins bytes, or begins with them, and whether there are any: for each number of bytes, what is missing is filled up.
func slowFrameAt(s string) (string, bool) {
	if s[0] != '~' {
		return "", false
	}
	for n := range 101 {
		head := "~" + slowBytes(n)
		part := strings.Repeat("\x00", n)
		if behind, ok := strings.CutPrefix(s, head); ok {
			part = (behind + part)[:n]
		} else if !strings.HasPrefix(head, s) {
			continue
		}
		frame := slowFrame(part)
		if strings.HasPrefix(frame, s) || strings.HasPrefix(s, frame) {
			return part, true
		}
	}
	return "", false
}

// slowStream tells what a stream tells, place by place.
func slowStream(s string) streamTold {
	var told streamTold
	for s != "" {
		part, seen := slowFrameAt(s)
		switch {
		case !seen:
			told.lost++
			s = s[1:]
		case strings.HasPrefix(s, slowFrame(part)):
			told.list = append(told.list, part)
			s = s[len(slowFrame(part)):]
		default:
			told.left = s
			return told
		}
	}
	return told
}

// isTold reports whether results are what is told.
func (told streamTold) isTold(list []string, lost int, left string, ok bool) bool {
	return ok && slices.Equal(list, told.list) && lost == told.lost && left == told.left
}

// behind is what is told behind what was told of an earlier part.
func (told streamTold) behind(first streamTold) streamTold {
	return streamTold{slices.Concat(first.list, told.list), first.lost + told.lost, told.left}
}

func checkStream(t *testing.T, s string, want streamTold) {
	t.Helper()
	if list, lost, left, ok := impl.FramesGet(s); !want.isTold(list, lost, left, ok) {
		t.Errorf("FramesGet(%q) = %q, %d, %q, %v, want %q, %d, %q", s, list, lost, left, ok, want.list, want.lost, want.left)
	}
}

func checkFeed(t *testing.T, left string, s string, want streamTold) {
	t.Helper()
	if list, lost, over, ok := impl.FramesFeed(left, s); !want.isTold(list, lost, over, ok) {
		t.Errorf("FramesFeed(%q, %q) = %q, %d, %q, %v, want %q, %d, %q", left, s, list, lost, over, ok, want.list, want.lost, want.left)
	}
}

func checkNoStream(t *testing.T, s string) {
	t.Helper()
	if list, lost, left, ok := impl.FramesGet(s); len(list) != 0 || lost != 0 || left != "" || ok {
		t.Errorf("FramesGet of %d bytes = %q, %d, %q, %v, want nothing", len(s), list, lost, left, ok)
	}
}

func checkNoFeed(t *testing.T, left string, s string) {
	t.Helper()
	if list, lost, over, ok := impl.FramesFeed(left, s); len(list) != 0 || lost != 0 || over != "" || ok {
		t.Errorf("FramesFeed of %d and %d bytes = %q, %d, %q, %v, want nothing", len(left), len(s), list, lost, over, ok)
	}
}

func checkFrame(t *testing.T, s string, want string, wantOk bool) {
	t.Helper()
	if frame, ok := impl.FramePut(s); frame != want || ok != wantOk {
		t.Errorf("FramePut(%q) = %q, %v, want %q, %v", s, frame, ok, want, wantOk)
	}
}

// checkFramesPut checks the frames of texts by how long these and all together are, and reports whether there are any.
func checkFramesPut(t *testing.T, list []string) bool {
	t.Helper()
	want := slowFrames(list)
	wantOk := len(want) <= 2000 && !slices.ContainsFunc(list, func(s string) bool { return len(s) > 100 })
	if !wantOk {
		want = ""
	}
	if s, ok := impl.FramesPut(list); s != want || ok != wantOk {
		t.Errorf("FramesPut(%q) = %q, %v, want %q, %v", list, s, ok, want, wantOk)
	}
	return wantOk
}

// checkLikeSlowStream checks a stream, and the same in two parts at each place that is a multiple of step.
func checkLikeSlowStream(t *testing.T, s string, step int) streamTold {
	t.Helper()
	want := slowStream(s)
	checkStream(t, s, want)
	for i := 0; i <= len(s); i += step {
		checkFeed(t, s[:i], s[i:], want)
	}
	return want
}

// streamMaker makes streams, always the same ones.
type streamMaker struct {
	r *rand.Rand
}

func newStreamMaker(seed int64) streamMaker {
	return streamMaker{rand.New(rand.NewSource(seed))}
}

// bytes are some bytes, of which many are 126 and small ones.
func (m streamMaker) bytes(size int) string {
	var b []byte
	for range size {
		switch m.r.Intn(4) {
		case 0:
			b = append(b, '~')
		case 1:
			b = append(b, byte(m.r.Intn(4)))
		default:
			b = append(b, byte(m.r.Intn(256)))
		}
	}
	return string(b)
}

// junk are bytes without 126.
func (m streamMaker) junk(size int) string {
	return strings.ReplaceAll(m.bytes(size), "~", "\x01")
}

// part is what a frame has: few bytes or many, or frames of others.
func (m streamMaker) part() string {
	switch m.r.Intn(6) {
	case 0:
		return m.bytes(m.r.Intn(101))
	case 1:
		return (m.bytes(m.r.Intn(3)) + m.frame() + m.frame() + m.bytes(m.r.Intn(3)) + strings.Repeat("~", 100))[:m.r.Intn(101)]
	case 2:
		return m.junk(m.r.Intn(12))
	default:
		return m.bytes(m.r.Intn(6))
	}
}

// parts are what some frames have.
func (m streamMaker) parts(n int) []string {
	var list []string
	for range n {
		list = append(list, m.part())
	}
	return list
}

// frame is a frame of few bytes.
func (m streamMaker) frame() string {
	return slowFrame(m.bytes(m.r.Intn(6)))
}

// piece is a frame, one that is cut off or changed, or junk.
func (m streamMaker) piece() string {
	frame := slowFrame(m.part())
	i := m.r.Intn(len(frame))
	switch m.r.Intn(8) {
	case 0:
		return frame[:i]
	case 1:
		return frame[:i] + m.bytes(1) + frame[i+1:]
	case 2:
		return frame[i:]
	case 3:
		// Another sum.
		return frame[:len(frame)-1] + m.bytes(1)
	case 4:
		return m.bytes(m.r.Intn(5))
	default:
		return frame
	}
}

// stream is up to n pieces.
func (m streamMaker) stream(n int) string {
	s := ""
	for range m.r.Intn(n + 1) {
		s += m.piece()
	}
	return s
}

// someStreams are written-out streams, and made ones of at most StreamTop bytes.
func someStreams(n int) []string {
	var streams []string
	for _, c := range streamCases {
		streams = append(streams, c.s)
	}
	m := newStreamMaker(9)
	for range n {
		if s := m.stream(1 + m.r.Intn(12)); len(s) <= 2000 {
			streams = append(streams, s)
		}
	}
	return streams
}

// framedTexts are what frames of all sizes have, of bytes that are 126 and that are not.
func framedTexts() []string {
	m := newStreamMaker(10)
	var parts []string
	for size := range 101 {
		parts = append(parts, strings.Repeat("~", size), strings.Repeat("\x00", size), m.bytes(size))
	}
	for _, c := range frameCases {
		parts = append(parts, c.s)
	}
	return parts
}

func TestFrameLimits(t *testing.T) {
	if impl.FrameTop != 100 || impl.StreamTop != 2000 || impl.SumMod != 9973 {
		t.Errorf("FrameTop, StreamTop and SumMod are %d, %d and %d", impl.FrameTop, impl.StreamTop, impl.SumMod)
	}
}

func TestSumCases(t *testing.T) {
	for _, c := range sumCases {
		if sum := impl.SumOf(c.s); sum != c.sum || slowSum(c.s) != c.sum {
			t.Errorf("SumOf(%q) = %d, slowly %d, want %d", c.s, sum, slowSum(c.s), c.sum)
		}
	}
}

func TestSumOfAllSizes(t *testing.T) {
	m := newStreamMaker(1)
	for size := range 2100 {
		for _, s := range []string{strings.Repeat("\x00", size), strings.Repeat("\xff", size), m.bytes(size)} {
			want := -1
			if size <= 2000 {
				want = slowSum(s)
			}
			if sum := impl.SumOf(s); sum != want {
				t.Errorf("SumOf of %d bytes = %d, want %d", size, sum, want)
			}
		}
	}
}

func TestSumOfAllShortTexts(t *testing.T) {
	for n := range 256 * 256 {
		s := string([]byte{byte(n / 256), byte(n)})
		if sum := impl.SumOf(s); sum != (961+n/256*31+n%256)%9973 {
			t.Fatalf("SumOf(%q) = %d", s, sum)
		}
	}
}

func TestFrameCases(t *testing.T) {
	for _, c := range frameCases {
		if slowFrame(c.s) != c.frame {
			t.Errorf("the frame of %q is slowly %q, want %q", c.s, slowFrame(c.s), c.frame)
		}
		checkFrame(t, c.s, c.frame, true)
		checkStream(t, c.frame, streamTold{list: []string{c.s}})
	}
}

func TestFrameTop(t *testing.T) {
	m := newStreamMaker(2)
	for size := range 400 {
		for _, s := range []string{strings.Repeat("~", size), strings.Repeat("x", size), strings.Repeat("\xff", size), m.bytes(size)} {
			if size > 100 {
				checkFrame(t, s, "", false)
				continue
			}
			checkFrame(t, s, slowFrame(s), true)
		}
	}
}

func TestFramesPutCases(t *testing.T) {
	long := strings.Repeat("x", 101)
	for _, c := range []struct {
		list []string
		s    string
		ok   bool
	}{
		{nil, "", true},
		{[]string{}, "", true},
		{[]string{""}, "~\x00\x01", true},
		{[]string{"", ""}, "~\x00\x01~\x00\x01", true},
		{[]string{"hi", "a"}, "~\x02hi\xc2\x21~\x01a\x80\x01", true},
		{[]string{"a", "hi", "a"}, "~\x01a\x80\x01~\x02hi\xc2\x21~\x01a\x80\x01", true},
		{[]string{long}, "", false},
		{[]string{long, "a"}, "", false},
		{[]string{"a", long}, "", false},
		{[]string{"a", long, "hi"}, "", false},
		{[]string{"", "", "", long}, "", false},
	} {
		if s, ok := impl.FramesPut(c.list); s != c.s || ok != c.ok {
			t.Errorf("FramesPut(%q) = %q, %v, want %q, %v", c.list, s, ok, c.s, c.ok)
		}
	}
}

func TestFramesPutStreamTop(t *testing.T) {
	m := newStreamMaker(3)
	for n := range 30 {
		for size := range 103 {
			var list []string
			for range n {
				list = append(list, m.bytes(100))
			}
			checkFramesPut(t, append(list, m.bytes(size)))
			checkFramesPut(t, slices.Concat([]string{m.bytes(size)}, list, []string{""}))
		}
	}
	// A frame of no bytes has three, so these have 1998, 2001, 2000 and 2001 bytes.
	for _, c := range []struct {
		list []string
		fits bool
	}{
		{make([]string, 666), true},
		{make([]string, 667), false},
		{append(make([]string, 665), "a"), true},
		{append(make([]string, 664), "a", "\x00"), false},
		{append([]string{"a"}, make([]string, 665)...), true},
		{append([]string{"a"}, make([]string, 666)...), false},
	} {
		if fits := checkFramesPut(t, c.list); fits != c.fits {
			t.Errorf("%d frames have %d bytes", len(c.list), len(slowFrames(c.list)))
		}
	}
}

func TestFramesPutMade(t *testing.T) {
	m := newStreamMaker(4)
	fits := 0
	for range 3000 {
		list := m.parts(m.r.Intn(120))
		if m.r.Intn(4) == 0 {
			list = slices.Insert(list, m.r.Intn(len(list)+1), m.bytes(99+m.r.Intn(4)))
		}
		was := slices.Clone(list)
		if checkFramesPut(t, list) {
			fits++
		}
		if !slices.Equal(list, was) {
			t.Errorf("FramesPut changed %q to %q", was, list)
		}
	}
	if fits < 500 || fits > 2500 {
		t.Errorf("%d of 3000 lists have frames", fits)
	}
}

func TestStreamCases(t *testing.T) {
	for _, c := range streamCases {
		told := checkLikeSlowStream(t, c.s, 1)
		if !c.told.isTold(told.list, told.lost, told.left, true) {
			t.Errorf("%q tells slowly %q, %d, %q, want %q, %d, %q", c.s, told.list, told.lost, told.left, c.told.list, c.told.lost, c.told.left)
		}
		checkStream(t, c.s, c.told)
	}
}

// TestFramesEndInTheMidst cuts frames off at each of their bytes, with nothing, junk and whole frames ahead.
func TestFramesEndInTheMidst(t *testing.T) {
	for _, ahead := range []struct {
		s    string
		told streamTold
	}{
		{"", streamTold{}},
		{"x", streamTold{lost: 1}},
		{"~~", streamTold{lost: 2}},
		{"\x00~e~\xff", streamTold{lost: 5}},
		{"~\x02hi\xc2\x21", streamTold{list: []string{"hi"}}},
		{"~\x00\x01~\x01_~", streamTold{list: []string{"", "_"}}},
		{"a~\x00\x01~\x01a\x81b", streamTold{list: []string{""}, lost: 6}},
		{slowFrame(strings.Repeat("~", 100)) + "ab", streamTold{list: []string{strings.Repeat("~", 100)}, lost: 2}},
	} {
		for _, part := range framedTexts() {
			frame := slowFrame(part)
			whole := streamTold{list: []string{part}}.behind(ahead.told)
			// What is ahead may itself end in the midst, until the byte 126 of the frame is there.
			for i := 1; i < len(frame); i++ {
				checkStream(t, ahead.s+frame[:i], streamTold{left: frame[:i]}.behind(ahead.told))
				checkFeed(t, ahead.s+frame[:i], frame[i:], whole)
			}
			checkStream(t, ahead.s+frame, whole)
		}
	}
}

// TestFramesSizes has each byte behind a byte 126, alone and with bytes behind it.
func TestFramesSizes(t *testing.T) {
	for n := range 256 {
		s := "~" + string([]byte{byte(n)})
		want := streamTold{lost: 2}
		if n <= 100 {
			want = streamTold{left: s}
		}
		if n == '~' {
			want = streamTold{lost: 1, left: "~"}
		}
		checkStream(t, s, want)
		for _, tail := range []string{"\x00", "\x01", "\x7f", "\x80", "~", "\x80\x00", "\x80\x01", "\x00\x01", "\x00\x00\x00", strings.Repeat("x", 100), strings.Repeat("x", 103), strings.Repeat("~", 103)} {
			checkLikeSlowStream(t, s+tail, 1)
			checkLikeSlowStream(t, s+tail+"~\x00\x01", 1)
		}
	}
	// Numbers from 0 to 100 with a needless last digit, or more of them, begin no frame.
	for n := range 101 {
		part := strings.Repeat("x", n)
		sum := slowBytes(slowSum(part))
		for _, digits := range []string{"\x00", "\x80\x00", "\x80\x80\x00", "\x80\x80\x80\x80\x00"} {
			s := "~" + string([]byte{byte(n + 128)}) + digits
			checkStream(t, s, streamTold{lost: len(s)})
			checkStream(t, s[:len(s)-1], streamTold{lost: len(s) - 1})
			checkStream(t, s+part+sum, streamTold{lost: len(s + part + sum)})
			checkStream(t, s+part+sum+"~\x00\x01", streamTold{list: []string{""}, lost: len(s + part + sum)})
		}
	}
}

// TestFramesTooGreat has what would be frames, but for having too many bytes.
func TestFramesTooGreat(t *testing.T) {
	for size := 101; size < 300; size++ {
		part := strings.Repeat("x", size)
		s := "~" + slowBytes(size) + part + slowBytes(slowSum(part))
		checkStream(t, s, streamTold{lost: len(s)})
		checkLikeSlowStream(t, s, 7)
		checkLikeSlowStream(t, s+"~\x00\x01", 7)
		checkLikeSlowStream(t, s[:size], 7)
	}
}

// TestFramesOtherSums has frames whose sum is another one in one byte, whole, cut off, and with bytes behind them.
func TestFramesOtherSums(t *testing.T) {
	for _, part := range []string{"", "\x00", "_", "a", "hi", "abc", "\x00\x00\x7f", "\x00\x00\x80", strings.Repeat("x", 100)} {
		frame := slowFrame(part)
		head := len(part) + 2
		for i := head; i < len(frame); i++ {
			for b := range 256 {
				s := frame[:i] + string([]byte{byte(b)})
				if s == frame[:i+1] {
					continue
				}
				want := streamTold{lost: len(s)}
				if b == '~' {
					want = streamTold{lost: len(s) - 1, left: "~"}
				}
				checkStream(t, s, want)
				checkLikeSlowStream(t, s+frame[i+1:], 1)
				for _, tail := range []string{"x", "\x00", "\x80\x00", "~", "~\x00\x01", "~\x02hi\xc2\x21", frame} {
					checkLikeSlowStream(t, s+tail, len(s))
					checkLikeSlowStream(t, s+frame[i+1:]+tail, len(s))
				}
			}
		}
		// A needless last digit of 0.
		last := len(frame) - 1
		s := frame[:last] + string([]byte{frame[last] + 128}) + "\x00"
		if frame[last] != '~' {
			checkStream(t, s, streamTold{lost: len(s)})
		}
		checkLikeSlowStream(t, s, 1)
	}
}

// TestFramesInFrames has frames that are left out byte by byte, in whose bytes there are frames, or beginnings of some.
func TestFramesInFrames(t *testing.T) {
	m := newStreamMaker(5)
	inner := 0
	for range 3000 {
		part := m.junk(m.r.Intn(4)) + m.frame() + m.junk(m.r.Intn(4)) + m.frame()
		part = part[:len(part)-m.r.Intn(4)]
		frame := slowFrame(part)
		checkStream(t, frame, streamTold{list: []string{part}})
		i := len(part) + 2 + m.r.Intn(len(frame)-len(part)-2)
		broken := frame[:i] + string([]byte{frame[i] + 1 + byte(m.r.Intn(255))}) + frame[i+1:]
		inner += len(checkLikeSlowStream(t, broken, 5).list)
		inner += len(checkLikeSlowStream(t, broken+m.stream(3), 50).list)
	}
	if inner < 5000 {
		t.Errorf("%d frames in others were read", inner)
	}
}

func TestFramesOfMarks(t *testing.T) {
	for size := range 101 {
		part := strings.Repeat("~", size)
		frame := slowFrame(part)
		checkStream(t, frame, streamTold{list: []string{part}})
		checkStream(t, frame+frame, streamTold{list: []string{part, part}})
		checkStream(t, "~"+frame, streamTold{list: []string{part}, lost: 1})
	}
	for size := 1; size <= 2000; size++ {
		checkStream(t, strings.Repeat("~", size), streamTold{lost: size - 1, left: "~"})
	}
}

func TestFramesShortStreams(t *testing.T) {
	const bytes = "~\x00\x01\x02\x1f\x9d\x80"
	frames, left := 0, 0
	for _, sizes := range []struct{ size, step int }{{5, 1}, {6, 7}} {
		eachText("", bytes, sizes.size, func(s string) {
			told := checkLikeSlowStream(t, s, sizes.step)
			frames += len(told.list)
			if told.left != "" {
				left++
			}
		})
	}
	if frames < 1500 || left < 10000 {
		t.Errorf("%d frames, %d streams that end in the midst", frames, left)
	}
}

func TestFramesAnyByte(t *testing.T) {
	const s = "a~\x03~\x00\x01\x83\x0a~\x02hi\xc2\x21~\x01_~~\x01a\x80"
	for i := range len(s) {
		for b := range 256 {
			one := string([]byte{byte(b)})
			checkLikeSlowStream(t, s[:i]+one+s[i+1:], 5)
			checkLikeSlowStream(t, s[:i]+one+s[i:], 5)
			checkLikeSlowStream(t, s[:i]+one, 5)
		}
	}
}

func TestFramesChangedByOneByte(t *testing.T) {
	for _, c := range streamCases {
		changedTexts(c.s, "~\x00\x01\x02\x80\xc2!ad", func(s string) {
			checkLikeSlowStream(t, s, 4)
		})
	}
}

func TestFramesMade(t *testing.T) {
	m := newStreamMaker(6)
	frames, lost, left, tooLong := 0, 0, 0, 0
	for i := range 6000 {
		s := m.stream(10)
		if i%20 == 0 {
			s += m.stream(100) + m.stream(100)
		}
		if len(s) > 2000 {
			tooLong++
			checkNoStream(t, s)
			checkNoFeed(t, s[:1000], s[1000:])
			continue
		}
		told := checkLikeSlowStream(t, s, 1+len(s)/5)
		frames += len(told.list)
		lost += told.lost
		left += len(told.left)
	}
	if frames < 10000 || lost < 10000 || left < 10000 || tooLong < 50 {
		t.Errorf("%d frames, %d bytes left out, %d left over, %d streams too long", frames, lost, left, tooLong)
	}
}

func TestStreamTop(t *testing.T) {
	for size := 1990; size <= 2010; size++ {
		most := slowFrames(make([]string, size/3)) + strings.Repeat("x", size%3)
		hundred := slowFrame(strings.Repeat("~", 100))
		large := strings.Repeat(hundred, size/len(hundred)) + hundred[:size%len(hundred)]
		for _, s := range []string{most, large, strings.Repeat("x", size), strings.Repeat("~", size), strings.Repeat("~d", size)[:size], strings.Repeat("~\x02hi\xc3", size)[:size]} {
			if len(s) != size {
				t.Errorf("a stream has %d bytes, want %d", len(s), size)
			}
			if size <= 2000 {
				checkLikeSlowStream(t, s, 97)
				continue
			}
			checkNoStream(t, s)
			for i := 0; i <= size; i += 97 {
				checkNoFeed(t, s[:i], s[i:])
			}
		}
	}
	checkStream(t, slowFrames(make([]string, 666))+"xx", streamTold{list: make([]string, 666), lost: 2})
	checkStream(t, "xx"+slowFrames(make([]string, 666)), streamTold{list: make([]string, 666), lost: 2})
	checkStream(t, slowFrames(make([]string, 666))+"~\x00", streamTold{list: make([]string, 666), left: "~\x00"})
	checkStream(t, strings.Repeat("x", 2000), streamTold{lost: 2000})
	checkStream(t, strings.Repeat("x", 1999)+"~", streamTold{lost: 1999, left: "~"})
}

func TestFeedCases(t *testing.T) {
	for _, c := range streamCases {
		checkFeed(t, "", c.s, c.told)
		checkFeed(t, c.s, "", c.told)
	}
	for _, c := range []struct {
		left, s string
		told    streamTold
	}{
		{"", "", streamTold{}},
		{"~", "", streamTold{left: "~"}},
		{"", "~", streamTold{left: "~"}},
		{"~", "~", streamTold{lost: 1, left: "~"}},
		{"~", "\x00", streamTold{left: "~\x00"}},
		{"~\x00", "\x01", streamTold{list: []string{""}}},
		{"~\x00", "\x01~", streamTold{list: []string{""}, left: "~"}},
		{"~\x02h", "i\xc2", streamTold{left: "~\x02hi\xc2"}},
		{"~\x02hi\xc2", "\x21x", streamTold{list: []string{"hi"}, lost: 1}},
		{"~\x02hi\xc2", "\x22x", streamTold{lost: 7}},
		{"~\x03~\x00", "\x01\x83\x0a", streamTold{list: []string{"~\x00\x01"}}},
		{"~\x03~\x00", "\x01\x84\x0a", streamTold{list: []string{""}, lost: 4}},
		// What is left begins no frame, is junk and a beginning, or has whole frames.
		{"x", "", streamTold{lost: 1}},
		{"x", "y", streamTold{lost: 2}},
		{"x", "~\x00\x01", streamTold{list: []string{""}, lost: 1}},
		{"~e", "~\x00\x01", streamTold{list: []string{""}, lost: 2}},
		{"x~", "\x00\x01", streamTold{list: []string{""}, lost: 1}},
		{"~\x00\x01", "", streamTold{list: []string{""}}},
		{"~\x00\x01", "~\x01a\x80\x01", streamTold{list: []string{"", "a"}}},
		{"~\x00\x01~\x01", "a\x80\x01", streamTold{list: []string{"", "a"}}},
	} {
		checkFeed(t, c.left, c.s, c.told)
	}
}

func TestFeedTooLong(t *testing.T) {
	frames := slowFrames(make([]string, 667))
	for _, size := range []int{0, 1, 2, 3, 104, 1000, 1999, 2000} {
		for _, s := range []string{strings.Repeat("x", 2000), frames[:2000]} {
			checkLikeSlowStream(t, s, 400)
			checkFeed(t, s[:size], s[size:], slowStream(s))
			checkNoFeed(t, s[:size], s[size:]+"x")
			checkNoFeed(t, s[:size]+"~", s[size:])
			checkNoFeed(t, s+"x", s[:size])
			checkNoFeed(t, s[:size], "x"+s)
		}
	}
	checkNoFeed(t, frames, "")
	checkNoFeed(t, "", frames)
	checkNoFeed(t, frames, frames)
	checkNoFeed(t, "~", frames[:2000])
	checkNoFeed(t, frames[:2000], "~")
}

// TestFeedInManyParts has a stream that is longer than one may be, in parts of all sizes.
func TestFeedInManyParts(t *testing.T) {
	m := newStreamMaker(7)
	s := ""
	for len(s) < 6000 {
		s += m.piece()
	}
	want := slowStream(s)
	for size := 1; size < 1800; size += 1 + size/20 {
		var told streamTold
		for part := range slices.Chunk([]byte(s), size) {
			list, lost, left, ok := impl.FramesFeed(told.left, string(part))
			if !ok {
				t.Fatalf("FramesFeed(%q, %q) fails", told.left, part)
			}
			told = streamTold{list, lost, left}.behind(told)
		}
		if !want.isTold(told.list, told.lost, told.left, true) {
			t.Errorf("in parts of %d bytes %d frames are told, %d bytes left out, %q left, want %d, %d, %q", size, len(told.list), told.lost, told.left, len(want.list), want.lost, want.left)
		}
	}
	if len(want.list) < 100 || want.lost < 100 {
		t.Errorf("%d frames, %d bytes left out", len(want.list), want.lost)
	}
}

func TestFramesVeryLong(t *testing.T) {
	for _, s := range []string{strings.Repeat("x", 1<<20), strings.Repeat("~", 1<<20), strings.Repeat("~\x00\x01", 1<<18), strings.Repeat("\xff", 1<<20)} {
		if sum := impl.SumOf(s); sum != -1 {
			t.Errorf("SumOf of %d bytes = %d", len(s), sum)
		}
		checkFrame(t, s, "", false)
		checkNoStream(t, s)
		checkNoFeed(t, s, "")
		checkNoFeed(t, "", s)
		checkNoFeed(t, s, s)
		for _, list := range [][]string{{s}, {s, "a"}, {"a", s}, {s, s}} {
			if frames, ok := impl.FramesPut(list); frames != "" || ok {
				t.Errorf("FramesPut of %d bytes has %d bytes, %v", len(s), len(frames), ok)
			}
		}
	}
	if frames, ok := impl.FramesPut(make([]string, 1<<20)); frames != "" || ok {
		t.Errorf("FramesPut of many texts has %d bytes, %v", len(frames), ok)
	}
}

func TestFramesNewMemory(t *testing.T) {
	const s = "~\x02hi\xc2\x21~\x01a\x80\x01~"
	want := streamTold{list: []string{"hi", "a"}, left: "~"}
	first, _, _, _ := impl.FramesGet(s)
	second, _, _, _ := impl.FramesGet(s)
	fed, _, _, _ := impl.FramesFeed(s[:3], s[3:])
	first[0], fed[1] = "x", "y"
	_ = append(first[:1], "z")
	if !slices.Equal(second, want.list) || !slices.Equal(fed, []string{"hi", "y"}) {
		t.Errorf("lists share memory: %q, %q", second, fed)
	}
	checkStream(t, s, want)
	checkFeed(t, s[:3], s[3:], want)
}

// TestFramesGoroutinesEnd fails if a goroutine is left that waits for something that never comes.
func TestFramesGoroutinesEnd(t *testing.T) {
	long := strings.Repeat("~", 2001)
	for _, s := range append(someStreams(200), long) {
		synctest.Test(t, func(t *testing.T) {
			impl.FramesGet(s)
			impl.FramesFeed(s[:len(s)/2], s[len(s)/2:])
		})
	}
}

func TestFramesAtOnce(t *testing.T) {
	streams := someStreams(300)
	var all sync.WaitGroup
	for i := range 16 {
		all.Go(func() {
			for j := range streams {
				s := streams[(j+i*20)%len(streams)]
				checkLikeSlowStream(t, s, 1+len(s)/3)
			}
		})
	}
	all.Wait()
}

func TestPromise44SumOfOneByteMore(t *testing.T) {
	m := newStreamMaker(44)
	var texts []string
	for n := range 256 {
		texts = append(texts, string([]byte{byte(n)}))
	}
	for size := range 120 {
		texts = append(texts, m.bytes(size), strings.Repeat("\xff", size), strings.Repeat("\x00", size))
	}
	texts = append(texts, m.bytes(1999), m.bytes(2000), strings.Repeat("\xff", 2000))
	for _, s := range texts {
		sum := impl.SumOf(s)
		if sum < 0 || sum >= 9973 {
			t.Errorf("SumOf(%q) = %d", s, sum)
		}
		for i := range len(s) {
			changed := s[:i] + string([]byte{s[i] + 1}) + s[i+1:]
			if other := impl.SumOf(changed); other == sum || other < 0 {
				t.Errorf("SumOf(%q) = %d, SumOf(%q) = %d", s, sum, changed, other)
			}
		}
	}
}

func TestPromise45FramesGetOfFramePut(t *testing.T) {
	m := newStreamMaker(45)
	texts := []string{""}
	for n := range 256 * 256 {
		texts = append(texts, string([]byte{byte(n / 256), byte(n)}))
	}
	for size := range 101 {
		for range 20 {
			texts = append(texts, m.bytes(size), m.junk(size))
		}
		texts = append(texts, strings.Repeat("~", size), strings.Repeat("\x80", size))
	}
	for n := range 256 {
		texts = append(texts, string([]byte{byte(n)}))
	}
	for _, s := range texts {
		frame, ok := impl.FramePut(s)
		if !ok {
			t.Fatalf("FramePut(%q) fails", s)
		}
		checkStream(t, frame, streamTold{list: []string{s}})
	}
}

func TestPromise46FramesGetOfFramesPut(t *testing.T) {
	m := newStreamMaker(46)
	frames, most := 0, 0
	for range 4000 {
		list := m.parts(m.r.Intn(90))
		if s, ok := impl.FramesPut(list); ok {
			checkStream(t, s, streamTold{list: list})
			frames += len(list)
			most = max(most, len(s))
		}
	}
	if frames < 50000 || most < 1990 {
		t.Errorf("%d frames, at most %d bytes", frames, most)
	}
	s, _ := impl.FramesPut(make([]string, 666))
	checkStream(t, s, streamTold{list: make([]string, 666)})
	s, _ = impl.FramesPut(nil)
	checkStream(t, s, streamTold{})
}

func TestPromise47AsManyBytesAsTheStream(t *testing.T) {
	for _, s := range someStreams(5000) {
		list, lost, left, ok := impl.FramesGet(s)
		frames, put := impl.FramesPut(list)
		if !ok || !put || len(frames)+lost+len(left) != len(s) || !strings.HasSuffix(s, left) {
			t.Errorf("FramesGet(%q) = %q, %d, %q, %v, with frames of %d bytes", s, list, lost, left, ok, len(frames))
		}
	}
}

func TestPromise48FramesFeedOfTwoParts(t *testing.T) {
	m := newStreamMaker(48)
	streams := someStreams(1500)
	for range 3 {
		s := m.stream(300)
		streams = append(streams, s[:min(len(s), 2000)])
	}
	for _, s := range streams {
		list, lost, left, ok := impl.FramesGet(s)
		whole := streamTold{list, lost, left}
		for i := range len(s) + 1 {
			list, lost, left, firstOk := impl.FramesGet(s[:i])
			first := streamTold{list, lost, left}
			list, lost, left, secondOk := impl.FramesFeed(left, s[i:])
			second := streamTold{list, lost, left}.behind(first)
			if !whole.isTold(second.list, second.lost, second.left, ok && firstOk && secondOk) {
				t.Fatalf("%q in two parts at %d tells %q, %d, %q, want %q, %d, %q", s, i, second.list, second.lost, second.left, whole.list, whole.lost, whole.left)
			}
		}
	}
}

func TestPromise49BytesBetweenFrames(t *testing.T) {
	m := newStreamMaker(49)
	for range 5000 {
		list := m.parts(m.r.Intn(12))
		s := m.junk(m.r.Intn(6))
		lost := len(s)
		for _, part := range list {
			frame, _ := impl.FramePut(part)
			junk := m.junk(m.r.Intn(6))
			s += frame + junk
			lost += len(junk)
		}
		checkStream(t, s, streamTold{list: list, lost: lost})
	}
}

func TestPromise50FramesAndAStreamBehind(t *testing.T) {
	m := newStreamMaker(50)
	for _, s := range someStreams(5000) {
		ahead := m.parts(m.r.Intn(8))
		frames, _ := impl.FramesPut(ahead)
		list, lost, left, _ := impl.FramesGet(s)
		told := streamTold{list, lost, left}.behind(streamTold{list: ahead})
		if len(frames)+len(s) > 2000 {
			checkNoStream(t, frames+s)
			continue
		}
		checkStream(t, frames+s, told)
	}
}
