package tests

import (
	"maps"
	"math"
	"math/rand"
	"slices"
	"strconv"
	"strings"
	"testing"

	"loop.example/wireforms/impl"
)

// bytesCase is a value with its bytes, written out.
type bytesCase struct {
	schema, kind, text, bytes string
}

var bytesCases = []bytesCase{
	{"", "n", "0", "\x00"},
	{"", "n", "1", "\x01"},
	{"", "n", "127", "\x7f"},
	{"", "n", "128", "\x80\x01"},
	{"", "n", "300", "\xac\x02"},
	{"", "n", "16384", "\x80\x80\x01"},
	{"", "n", "999999", "\xbf\x84\x3d"},
	{"", "t", "''", "\x00"},
	{"", "t", "'a'", "\x01a"},
	{"", "t", "'0 z'", "\x030 z"},
	{"", "t", "'abcdefghijkl'", "\x0cabcdefghijkl"},
	{"", "f", "no", "\x00"},
	{"", "f", "yes", "\x01"},
	{"", "[n", "[]", "\x00"},
	{"", "[n", "[0]", "\x01\x00"},
	{"", "[n", "[5,128,0]", "\x03\x05\x80\x01\x00"},
	{"", "[t", "['','hi']", "\x02\x00\x02hi"},
	{"", "[f", "[yes,no]", "\x02\x01\x00"},
	{"", "[[n", "[[],[7],[1,2]]", "\x03\x00\x01\x07\x02\x01\x02"},
	{"", "[?n", "[-,+0,+9]", "\x03\x00\x01\x00\x01\x09"},
	{"", "?n", "-", "\x00"},
	{"", "?n", "+0", "\x01\x00"},
	{"", "?n", "+300", "\x01\xac\x02"},
	{"", "??n", "-", "\x00"},
	{"", "??n", "+-", "\x01\x00"},
	{"", "??n", "++5", "\x01\x01\x05"},
	{"", "?[n", "+[]", "\x01\x00"},
	{"", "?t", "+'a'", "\x01\x01a"},
	{"", "???????????f", "+++++++++++yes", "\x01\x01\x01\x01\x01\x01\x01\x01\x01\x01\x01\x01"},
	{"", "[[[[[[[[[[[n", "[[[[[[[[[[[5]]]]]]]]]]]", "\x01\x01\x01\x01\x01\x01\x01\x01\x01\x01\x01\x05"},
	{plainSchema, "@a;", "{}", "\x00"},
	{plainSchema, "@a;", "{1=7}", "\x01\x01\x07\x00"},
	{plainSchema, "@a;", "{1=0}", "\x01\x01\x00\x00"},
	{plainSchema, "@a;", "{1=300}", "\x01\x02\xac\x02\x00"},
	{plainSchema, "@a;", "{1=7,2=['hi']}", "\x01\x01\x07\x02\x04\x01\x02hi\x00"},
	{plainSchema, "@a;", "{2=['']}", "\x02\x02\x01\x00\x00"},
	{plainSchema, "@a;", "{4=+{}}", "\x04\x02\x01\x00\x00"},
	{plainSchema, "@a;", "{1=4,4=+{4=+{1=50}}}", "\x01\x01\x04\x04\x09\x01\x04\x05\x01\x01\x01\x32\x00\x00\x00"},
	{plainSchema, "?@a;", "-", "\x00"},
	{plainSchema, "?@a;", "+{1=6}", "\x01\x01\x01\x06\x00"},
	{plainSchema, "[@a;", "[{},{1=1},{}]", "\x03\x00\x01\x01\x01\x00\x00"},
	{plainSchema, "@b;", "<1=0>", "\x01\x01\x00"},
	{plainSchema, "@b;", "<1=5>", "\x01\x01\x05"},
	{plainSchema, "@b;", "<1=128>", "\x01\x02\x80\x01"},
	{plainSchema, "@b;", "<3={}>", "\x03\x01\x00"},
	{plainSchema, "@b;", "<3={1=0}>", "\x03\x04\x01\x01\x00\x00"},
	{plainSchema, "[@b;", "[<1=1>,<3={}>]", "\x02\x01\x01\x01\x03\x01\x00"},
	{plainSchema, "@c;", "#1", "\x01"},
	{plainSchema, "@c;", "#2", "\x02"},
	{plainSchema, "[@c;", "[#2,#1]", "\x02\x02\x01"},
	{plainSchema, "??@c;", "++#2", "\x01\x01\x02"},
	{fullSchema, "@r;", "{200=#20}", "\xc8\x01\x01\x14\x00"},
	{fullSchema, "@r;", "{3='a',4='',5=yes,6=no}", "\x03\x02\x01a\x04\x01\x00\x05\x01\x01\x06\x01\x00\x00"},
	{fullSchema, "@r;", "{10=<7=<5=<9=#3>>>,200=#20}", "\x0a\x07\x07\x05\x05\x03\x09\x01\x03\xc8\x01\x01\x14\x00"},
	{fullSchema, "@r;", "{2=8,4='a',10=<5=<9=#20>>}", "\x02\x01\x08\x04\x02\x01a\x0a\x05\x05\x03\x09\x01\x14\x00"},
	{fullSchema, "@v;", "<10=->", "\x0a\x01\x00"},
	{fullSchema, "@v;", "<10=++0>", "\x0a\x03\x01\x01\x00"},
	{fullSchema, "@s;", "{99=<10=->}", "\x63\x03\x0a\x01\x00\x00"},
	{fullSchema, "@o;", "{}", "\x00"},
	{"Ea=127:x,128:y,200:z\n", "@a;", "#127", "\x7f"},
	{"Ea=127:x,128:y,200:z\n", "@a;", "#128", "\x80\x01"},
	{"Ea=127:x,128:y,200:z\n", "@a;", "#200", "\xc8\x01"},
	{"Ua=127:x:n,128:y:f,200:z:t\n", "@a;", "<128=yes>", "\x80\x01\x01\x01"},
	{"Ua=127:x:n,128:y:f,200:z:t\n", "@a;", "<200=''>", "\xc8\x01\x01\x00"},
	{"Ra=127:x:n,128:y:f,200:z:t\n", "@a;", "{127=1,128=yes,200=' '}", "\x7f\x01\x01\x80\x01\x01\x01\xc8\x01\x02\x01 \x00"},
}

// readCase is bytes that are read as a value, but are not those of it; skip are the tags of fields that are left out of a record.
type readCase struct {
	schema, kind, bytes, text string
	skip                      []int
}

// twoSchema has a record with room for other tags ahead of its fields, between them and behind them.
const twoSchema = "Ra=5:x:n,9:y:n\nRb=\n"

var readCases = []readCase{
	// A field whose tag the type has not: at the beginning, in the midst, at the end, many, no others.
	{twoSchema, "@a;", "\x01\x01\x07\x05\x01\x01\x09\x01\x02\x00", "{5=1,9=2}", []int{1}},
	{twoSchema, "@a;", "\x05\x01\x01\x07\x01\x07\x09\x01\x02\x00", "{5=1,9=2}", []int{7}},
	{twoSchema, "@a;", "\x05\x01\x01\x09\x01\x02\xc8\x01\x01\x07\x00", "{5=1,9=2}", []int{200}},
	{twoSchema, "@a;", "\x01\x00\x04\x00\x05\x01\x01\x06\x00\x08\x00\x09\x01\x02\x0a\x00\x7f\x00\x80\x01\x00\x00", "{5=1,9=2}", []int{1, 4, 6, 8, 10, 127, 128}},
	{twoSchema, "@a;", "\x07\x01\x07\x00", "{}", []int{7}},
	{twoSchema, "@b;", "\x01\x01\x01\x02\x01\x01\x00", "{}", []int{1, 2}},
	// Tags of more than TagTop, which no type has.
	{twoSchema, "@a;", "\xc9\x01\x00\x00", "{}", []int{201}},
	{twoSchema, "@a;", "\x05\x01\x01\x09\x01\x02\xc9\x01\x01\x07\x00", "{5=1,9=2}", []int{201}},
	{twoSchema, "@a;", "\x09\x01\x02\xc8\x01\x00\xc9\x01\x02\x07\xc8\xff\x01\x00\x80\x02\x00\xff\x7f\x01\x80\x80\x80\x01\x00\xbf\x84\x3d\x00\x00", "{9=2}", []int{200, 201, 255, 256, 16383, 16384, 999999}},
	{twoSchema, "@b;", "\xbe\x84\x3d\x01\x01\xbf\x84\x3d\x01\x01\x00", "{}", []int{999998, 999999}},
	{plainSchema, "@a;", "\xc9\x01\x01\x07\x00", "{}", []int{201}},
	{plainSchema, "@a;", "\xff\x01\x00\x00", "{}", []int{255}},
	{plainSchema, "@a;", "\x80\x02\x00\x00", "{}", []int{256}},
	{plainSchema, "@a;", "\x81\x02\x01\x07\x00", "{}", []int{257}},
	{plainSchema, "@a;", "\xbf\x84\x3d\x00\x00", "{}", []int{999999}},
	{plainSchema, "@a;", "\x01\x01\x07\xc9\x01\x02\x07\xc8\x00", "{1=7}", []int{201}},
	{plainSchema, "@a;", "\x01\x01\x05\xf4\x02\x03\xbf\x84=\x00", "{}", []int{372}},
	{plainSchema, "@a;", "\x04\x06\x01\xf4\x02\x01\xff\x00\x00", "{4=+{}}", []int{}},
	{plainSchema, "@a;", "\x04\x05\x01\xf4\x02\x00\x00\xf5\x02\x00\x00", "{4=+{}}", []int{373}},
	{plainSchema, "?@a;", "\x01\xca\x01\x03\x80\x80\x01\x00", "+{}", nil},
	{plainSchema, "[@a;", "\x02\xc9\x01\x00\x00\x01\x01\x06\xbf\x84\x3d\x00\x00", "[{},{1=6}]", nil},
	{plainSchema, "@b;", "\x03\x04\xa3\x03\x00\x00", "<3={}>", nil},
	{fullSchema, "@r;", "\xc8\x01\x01\x14\xc9\x01\x01\x14\x00", "{200=#20}", []int{201}},
	{fullSchema, "@o;", "\xc9\x01\x00\x00", "{}", []int{201}},
	// Bytes of such a field that are no bytes of any value.
	{plainSchema, "@a;", "\x01\x01\x07\x03\x00\x00", "{1=7}", []int{3}},
	{plainSchema, "@a;", "\x01\x01\x07\x03\x01\x80\x00", "{1=7}", []int{3}},
	{plainSchema, "@a;", "\x01\x01\x07\x03\x04\xff\xff\xff\xff\x00", "{1=7}", []int{3}},
	{plainSchema, "@a;", "\x01\x01\x07\x03\x06\x00\x00\x01\x01\x09\x00\x04\x02\x01\x00\x00", "{1=7,4=+{}}", []int{3}},
	{plainSchema, "@a;", "\x03\x80\x01" + strings.Repeat("\xfe", 128) + "\x00", "{}", []int{3}},
	// One that is told in what is in a record is none of the record itself.
	{plainSchema, "@a;", "\x04\x05\x01\x09\x01\x01\x00\x00", "{4=+{}}", []int{}},
	{plainSchema, "@a;", "\x04\x05\x01\x09\x01\x01\x00\x08\x00\x00", "{4=+{}}", []int{8}},
	{plainSchema, "?@a;", "\x01\x09\x00\x00", "+{}", nil},
	{plainSchema, "[@a;", "\x02\x09\x00\x00\x01\x01\x06\x00", "[{},{1=6}]", nil},
	{plainSchema, "@b;", "\x03\x04\x09\x01\x01\x00", "<3={}>", nil},
	// A field that has its standing value, or comes to have it, is not told, and is none that is left out.
	{plainSchema, "@a;", "\x01\x01\x05\x09\x01\x01\x00", "{}", []int{9}},
	{plainSchema, "@a;", "\x01\x01\x05\x00", "{}", []int{}},
	{plainSchema, "@a;", "\x02\x01\x00\x00", "{}", []int{}},
	{plainSchema, "@a;", "\x04\x01\x00\x00", "{}", []int{}},
	{plainSchema, "@a;", "\x01\x01\x05\x02\x01\x00\x04\x01\x00\x00", "{}", []int{}},
	{plainSchema, "@a;", "\x01\x01\x06\x02\x01\x00\x04\x02\x01\x00\x00", "{1=6,4=+{}}", []int{}},
	{plainSchema, "@a;", "\x04\x05\x01\x01\x01\x05\x00\x00", "{4=+{}}", []int{}},
	{plainSchema, "[@a;", "\x01\x01\x01\x05\x00", "[{}]", nil},
	{plainSchema, "@b;", "\x03\x04\x01\x01\x05\x00", "<3={}>", nil},
	{fullSchema, "@s;", "\x03\x01\x00\x00", "{}", []int{}},
	{fullSchema, "@s;", "\x03\x04\x03\x01\x00\x00\x00", "{}", []int{}},
	{fullSchema, "@s;", "\x03\x04\x07\x01\x01\x00\x00", "{}", []int{}},
	{fullSchema, "@r;", "\x01\x01\x00\x02\x01\x07\x03\x01\x00\x04\x03\x02ab\x05\x01\x00\x06\x01\x01\x0a\x05\x05\x03\x09\x01\x03\xc8\x01\x01\x03\x00", "{}", []int{}},
	{fullSchema, "@u;", "\x05\x06\x0b\x04\x02\x01\x07\x00", "<5=<11={}>>", nil},
}

// notBytes are bytes that cannot be read as a value of a kind.
var notBytes = []struct {
	schema, kind string
	forms        []string
}{
	{"", "n", []string{"", "\x80", "\xff", "\x80\x80", "\x80\x80\x80", "\x80\x00", "\x81\x00", "\xff\x80\x00", "\x80\x80\x00", "\xc0\x84\x3d", "\xff\xff\x7f", "\x80\x80\x80\x01", "\xff\xff\xff\x7f", "\x00\x00", "\x01\x00", "\x80\x01\x00", "\xbf\x84\x3d0", "1\x32"}},
	{"", "t", []string{"", "\x01", "\x02a", "\x00a", "\x01ab", "\x01A", "\x01_", "\x01'", "\x02a\x00", "\x02\xc3\xa9", "\x01\xff", "\x0dabcdefghijklm", "\x0d             ", "\x0cabcdefghijk", "\x80\x00", "\x81\x00a", "\x80\x01" + strings.Repeat("a", 128), "\xc0\x84\x3da", "''", "'a'"}},
	{"", "f", []string{"", "\x02", "\x03", "\x7f", "\x80", "\xff", "\x80\x00", "\x81\x00", "\x80\x01", "\x00\x00", "\x01\x01", "0", "yes", "no"}},
	{"", "[n", []string{"", "\x01", "\x02\x01", "\x01\x01\x01", "\x00\x00", "\x80\x00", "\x81\x00\x05", "\x01\x80", "\x01\x80\x00", "\x15" + strings.Repeat("\x00", 21), "\x80\x01" + strings.Repeat("\x00", 128), "\xc0\x84\x3d", "\xff\xff\xff", "[]"}},
	{"", "[f", []string{"\x01\x02", "\x02\x00\x02", "\x02\x00"}},
	{"", "[t", []string{"\x01\x02a", "\x01\x01", "\x02\x01a", "\x01\x01A"}},
	{"", "[[n", []string{"\x01", "\x01\x01", "\x02\x01\x00", "\x01\x15" + strings.Repeat("\x00", 21)}},
	{"", "?n", []string{"", "\x01", "\x02", "\x02\x05", "\x7f\x05", "\x81\x00\x05", "\x80\x00", "\x00\x00", "\x01\x05\x05", "\x01\x80\x00", "\x01\xc0\x84\x3d", "-", "+5"}},
	{"", "??n", []string{"\x01", "\x01\x01", "\x01\x02\x05", "\x02\x01\x05", "\x01\x00\x00"}},
	{plainSchema, "@a;", []string{
		"", "\x01", "\x01\x01", "\x01\x01\x07", "\x01\x02\x07\x00", "\x01\x00\x00", "\x01\x01\x07\x00\x00", "\x00\x00", "\x01\x01\x07\x01\x00", "\x80\x00",
		// Tags that come twice, do not ascend, or are 0 in other bytes; also where they are more than TagTop.
		"\x01\x01\x07\x01\x01\x07\x00", "\x03\x00\x03\x00\x00", "\x02\x02\x01\x00\x01\x01\x07\x00", "\x03\x00\x01\x01\x07\x00", "\x09\x00\x03\x00\x00", "\xc8\x01\x00\x01\x01\x07\x00", "\x80\x00\x01\x07\x00", "\xc9\x01\x00\xc9\x01\x00\x00", "\xca\x01\x00\xc9\x01\x00\x00", "\xc9\x01\x00\x01\x01\x07\x00", "\xc9\x01\x00\xc8\x01\x00\x00", "\x80\x02\x00\xff\x01\x00\x00", "\xbf\x84\x3d\x00\xbe\x84\x3d\x00\x00", "\xbf\x84\x3d\x00\x01\x01\x07\x00",
		// Numbers with a needless last digit 0, or too great, in a tag, how many, or a value; and ones that are cut off.
		"\x81\x00\x01\x07\x00", "\x01\x81\x00\x07\x00", "\x01\x02\x87\x00\x00", "\x83\x00\x00\x00", "\x03\x80\x00\x00", "\x03\x81\x00\x07\x00", "\xc0\x84\x3d\x00\x00", "\x03\xc0\x84\x3d\x00", "\x03\xff\xff\xff\x7f\x00", "\x01\x03\xc0\x84\x3d\x00", "\x83\x80\x00\x00\x00", "\x83", "\x03\x80", "\x03\x80\x00", "\xc9\x81\x00\x00\x00", "\xc0\x84\x3d\x01\x07\x00", "\xff\xff\x7f\x00\x00", "\xc9\x81\x80\x01\x00\x00", "\xc9\x01", "\xc9", "\xbf\x84",
		// A value that has fewer bytes, or more of them, than it tells.
		"\x01\x01\x80\x00", "\x01\x01\x80\x01\x00", "\x01\x03\x80\x01\x00", "\x01\x02\x07\x07\x00", "\x02\x01\x01\x07\x00", "\x02\x04\x01\x01ab\x00", "\x02\x02\x01\x01a\x00", "\x02\x03\x01\x02a\x00", "\x04\x03\x01\x00\x00\x00", "\x04\x01\x01\x00", "\x04\x00\x00",
		// The same where the field is one that the type has not.
		"\x03\x01\x00", "\x03\x02\x07\x00", "\x03\x05\x00", "\x03", "\x03\x00", "\x03\x00\x00\x00", "\xc9\x01\x01\x00", "\xc9\x01\x02\x07\x00", "\xc9\x01\x00", "\xc9\x01\x00\x00\x00", "\xbf\x84\x3d\x05\x00",
		// Values that are none of their field's kind, where another one would be left out.
		"\x02\x02\x01\x05\x00", "\x04\x01\x02\x00", "\x04\x02\x02\x00\x00", "\x04\x04\x01\x01\x01\x05\x00", "{}",
	}},
	{plainSchema, "?@a;", []string{"", "\x01", "\x02\x00", "\x00\x00", "\x01\x00\x00"}},
	{plainSchema, "[@a;", []string{"\x01", "\x01\x01\x01\x07", "\x02\x00", "\x01\x00\x00"}},
	{plainSchema, "@b;", []string{
		"", "\x00", "\x00\x00", "\x01", "\x01\x00", "\x01\x01", "\x01\x01\x05\x00", "\x01\x02\x05\x05", "\x01\x02\x05", "\x02\x01\x00", "\x04\x01\x00", "\x03\x00", "\x03\x02\x00\x00", "\x03\x02\x00", "\x03\x01\x01", "\x81\x00\x01\x05", "\x01\x81\x00\x05", "\x01\x02\x85\x00", "\xc9\x01\x01\x05", "\x81\x02\x01\x05", "\xbf\x84\x3d\x01\x05", "\x01\x03\xc0\x84\x3d", "\x01\x01\x80\x01", "\x03\x03\x03\x00\x01",
	}},
	{plainSchema, "@c;", []string{"", "\x00", "\x03", "\x04", "\x81\x00", "\x80\x01", "\x81\x02", "\xc9\x01", "\xbf\x84\x3d", "\x01\x00", "\x01\x01", "#1"}},
	{plainSchema, "[@c;", []string{"\x01", "\x01\x00", "\x01\x03", "\x02\x01\x03", "\x02\x01"}},
	{fullSchema, "@r;", []string{"\x02\x01\x07\x01\x01\x05\x00", "\x05\x01\x02\x00", "\xc8\x01\x01\x04\x00", "\xc8\x00\x01\x14\x00", "\x0a\x05\x05\x03\x09\x01\x04\x00", "\x0a\x05\x05\x03\x08\x01\x03\x00", "\x0a\x05\x05\x02\x09\x01\x03\x00", "\x0a\x06\x05\x03\x09\x01\x03\x00\x00"}},
	{fullSchema, "@o;", []string{"", "\x01", "\x01\x00", "\x00\x00", "\x01\x01\x00", "\xc9\x01\x01\x00"}},
	{"Ea=127:x,128:y,200:z\n", "@a;", []string{"\x01", "\x7e", "\xff\x00", "\x80", "\x80\x00", "\x81\x01", "\xc8", "\xc9\x01", "\xc8\x01\x00", "\xc8\x81\x00"}},
}

// slowForm is what the definition tells of bytes that are read from their beginning on: skip are the tags of fields that are left out.
type slowForm struct {
	text       string
	size, deep int
	skip       []int
}

// slowTag is a field that is told in bytes of a record, with the bytes of its value.
type slowTag struct {
	tag  int
	part string
}

// slowNumber tells by the definition the number at the beginning of bytes, and how many bytes it has, 0 if there is none.
func slowNumber(s string) (int, int) {
	n, unit := 0, 1
	for size := 1; size <= min(3, len(s)); size++ {
		n += int(s[size-1]%128) * unit
		unit *= 128
		if n <= 999999 && s[:size] == slowBytes(n) {
			return n, size
		}
	}
	return 0, 0
}

// slowTags tells the fields at the beginning of bytes of a record, how many bytes these are with the byte 0 behind them, and whether it is there.
func slowTags(s string) ([]slowTag, int, bool) {
	var tags []slowTag
	at, last := 0, 0
	for at < len(s) && s[at] != 0 {
		tag, tagSize := slowNumber(s[at:])
		many, manySize := slowNumber(s[at+tagSize:])
		begin := at + tagSize + manySize
		if tagSize == 0 || manySize == 0 || tag <= last || begin+many > len(s) {
			return tags, 0, false
		}
		at, last = begin+many, tag
		tags = append(tags, slowTag{tag, s[begin:at]})
	}
	return tags, at + 1, at < len(s)
}

// slowRead tells by the definition what is read of a kind at the beginning of bytes, without the limits of a whole value.
func slowRead(c schemaCase, kind string, s string) (slowForm, bool) {
	// The bytes of each value begin with a number.
	n, size := slowNumber(s)
	if size == 0 {
		return slowForm{}, false
	}
	form := slowForm{size: size, deep: 1}
	switch kind[0] {
	case 'n':
		form.text = strconv.Itoa(n)
		return form, true
	case 't':
		form.size += min(n, len(s)-size)
		form.text = "'" + s[size:form.size] + "'"
		return form, form.size == size+n && plainValues["t"].MatchString(form.text)
	case 'f':
		form.text = map[int]string{0: "no", 1: "yes"}[n]
		return form, n <= 1
	case '?':
		if n == 0 {
			form.text = "-"
			return form, true
		}
		items, ok := form.items(c, kind[1:], s, 1)
		form.text = "+" + items
		return form, ok && n == 1
	case '[':
		items, ok := form.items(c, kind[1:], s, min(n, 21))
		form.text = "[" + items + "]"
		return form, ok && n <= 20
	}
	def, _ := typeOf(c, kind[1:len(kind)-1])
	switch def.sort {
	case "R":
		return slowReadRecord(c, def, s)
	case "U":
		many, manySize := slowNumber(s[size:])
		size += manySize
		f, found := fieldOf(def, n)
		if !found || manySize == 0 || size+many > len(s) {
			return slowForm{}, false
		}
		part, ok := slowReadAll(c, f.kind, s[size:size+many])
		return slowForm{text: "<" + strconv.Itoa(n) + "=" + part.text + ">", size: size + many, deep: part.deep + 1}, ok
	}
	_, found := fieldOf(def, n)
	form.text = "#" + strconv.Itoa(n)
	return form, found
}

// items adds some values of a kind to what is read, and tells them with , between.
func (form *slowForm) items(c schemaCase, kind string, s string, n int) (string, bool) {
	var items []string
	for range n {
		item, ok := slowRead(c, kind, s[form.size:])
		if !ok {
			return "", false
		}
		items = append(items, item.text)
		form.size += item.size
		form.deep = max(form.deep, item.deep+1)
	}
	return strings.Join(items, ","), true
}

// slowReadAll is slowRead where nothing may be left.
func slowReadAll(c schemaCase, kind string, s string) (slowForm, bool) {
	form, ok := slowRead(c, kind, s)
	return form, ok && form.size == len(s)
}

// slowReadRecord is slowRead of a record.
func slowReadRecord(c schemaCase, def schemaType, s string) (slowForm, bool) {
	tags, size, ok := slowTags(s)
	form := slowForm{size: size, deep: 1, skip: []int{}}
	fields := map[int]string{}
	for _, told := range tags {
		f, found := fieldOf(def, told.tag)
		if !found {
			form.skip = append(form.skip, told.tag)
			continue
		}
		part, isPart := slowReadAll(c, f.kind, told.part)
		ok = ok && isPart
		form.deep = max(form.deep, part.deep+1)
		if part.text != f.stand {
			fields[told.tag] = part.text
		}
	}
	form.text = slowRecord(fields)
	return form, ok
}

// slowGet tells by the definition, without the program, what bytes are as a value of a kind, and whether they are one.
func slowGet(c schemaCase, kind string, s string) (slowForm, bool) {
	k, ok := slowKind(kind)
	if _, found := typeOf(c, k.name); !ok || k.name != "" && !found || len(s) > 600 {
		return slowForm{}, false
	}
	form, ok := slowReadAll(c, kind, s)
	return form, ok && form.deep <= 12 && len(form.text) <= 400
}

// slowPut tells by the definition, without the program, the bytes of a value.
func slowPut(c schemaCase, kind string, s string) string {
	switch kind[0] {
	case 'n':
		n, _ := strconv.Atoi(s)
		return slowBytes(n)
	case 't':
		return slowSized(s[1 : len(s)-1])
	case 'f':
		return map[string]string{"no": "\x00", "yes": "\x01"}[s]
	case '?':
		if s == "-" {
			return "\x00"
		}
		return "\x01" + slowPut(c, kind[1:], s[1:])
	case '[':
		pieces, _ := slowPieces(s, "[", "]")
		form := slowBytes(len(pieces))
		for _, piece := range pieces {
			form += slowPut(c, kind[1:], piece)
		}
		return form
	}
	def, _ := typeOf(c, kind[1:len(kind)-1])
	if def.sort == "E" {
		n, _ := strconv.Atoi(s[1:])
		return slowBytes(n)
	}
	pieces, _ := slowPieces(s, s[:1], s[len(s)-1:])
	form := ""
	for _, piece := range pieces {
		m := toldLook.FindStringSubmatch(piece)
		tag, _ := strconv.Atoi(m[1])
		f, _ := fieldOf(def, tag)
		form += slowBytes(tag) + slowSized(slowPut(c, f.kind, m[2]))
	}
	if def.sort == "R" {
		form += "\x00"
	}
	return form
}

// slowSized tells how many bytes there are, and these.
func slowSized(s string) string {
	return slowBytes(len(s)) + s
}

// slowBytesField tells by the definition what BytesField is.
func slowBytesField(s string, tag int) (string, bool) {
	tags, _, _ := slowTags(s)
	for _, told := range tags {
		if told.tag == tag && tag <= 200 && len(s) <= 600 {
			return told.part, true
		}
	}
	return "", false
}

func checkPut(t *testing.T, schema string, kind string, s string, want string, wantOk bool) {
	t.Helper()
	if got, ok := impl.BytesPut(schema, kind, s); got != want || ok != wantOk {
		t.Errorf("BytesPut(%q, %q, %q) = %q, %v, want %q, %v", schema, kind, s, got, ok, want, wantOk)
	}
}

func checkGet(t *testing.T, schema string, kind string, s string, want string, wantOk bool) {
	t.Helper()
	if got, ok := impl.BytesGet(schema, kind, s); got != want || ok != wantOk {
		t.Errorf("BytesGet(%q, %q, %q) = %q, %v, want %q, %v", schema, kind, s, got, ok, want, wantOk)
	}
}

func checkCanon(t *testing.T, schema string, kind string, s string, want bool) {
	t.Helper()
	if got := impl.BytesCanon(schema, kind, s); got != want {
		t.Errorf("BytesCanon(%q, %q, %q) = %v", schema, kind, s, got)
	}
}

func checkSkip(t *testing.T, schema string, kind string, s string, want []int, wantOk bool) {
	t.Helper()
	if got, ok := impl.BytesSkip(schema, kind, s); !slices.Equal(got, want) || ok != wantOk {
		t.Errorf("BytesSkip(%q, %q, %q) = %v, %v, want %v, %v", schema, kind, s, got, ok, want, wantOk)
	}
}

func checkBytesField(t *testing.T, s string, tag int, want string, wantOk bool) {
	t.Helper()
	if got, ok := impl.BytesField(s, tag); got != want || ok != wantOk {
		t.Errorf("BytesField(%q, %d) = %q, %v, want %q, %v", s, tag, got, ok, want, wantOk)
	}
}

// checkNoForm checks that bytes are not read as a value of a kind.
func checkNoForm(t *testing.T, schema string, kind string, s string) {
	t.Helper()
	checkGet(t, schema, kind, s, "", false)
	checkCanon(t, schema, kind, s, false)
	checkSkip(t, schema, kind, s, nil, false)
}

// checkLikeSlowForm holds bytes against the definition, and reports whether they are read.
func checkLikeSlowForm(t *testing.T, c schemaCase, kind string, s string) bool {
	t.Helper()
	form, ok := slowGet(c, kind, s)
	if !ok {
		checkNoForm(t, c.text, kind, s)
		return false
	}
	checkGet(t, c.text, kind, s, form.text, true)
	checkCanon(t, c.text, kind, s, s == slowPut(c, kind, form.text))
	_, isRecord := recordOf(c, kind)
	checkSkip(t, c.text, kind, s, form.skip, isRecord)
	return true
}

// checkLikeSlowFields holds BytesField of bytes against the definition; it returns how many fields they have.
func checkLikeSlowFields(t *testing.T, s string) int {
	t.Helper()
	fields := 0
	tags, _, _ := slowTags(s)
	ask := []int{-1, 0, 1, 2, 3, 4, 5, 127, 128, 199, 200, 201, 256, 257}
	for _, told := range tags {
		ask = append(ask, told.tag, told.tag+1)
	}
	for _, tag := range ask {
		want, ok := slowBytesField(s, tag)
		checkBytesField(t, s, tag, want, ok)
		if ok {
			fields++
		}
	}
	return fields
}

// someBytes are bytes that an error may put in, or leave behind a form.
const someBytes = "\x00\x01\x02\x03\x04\x05\x07\x09\x14\x15a \x7f\x80\x81\xc8\xff"

// form is bytes that most often are read as a value of a kind; they may tell fields that the type has not, and standing values.
func (m valueMaker) form(c schemaCase, kind string, left int) string {
	// Once in a while a number is told with a needless digit.
	if m.r.Intn(200) == 0 {
		return "\x81\x00"
	}
	switch kind[0] {
	case '[':
		n := m.r.Intn(4)
		if left <= 0 {
			n = 0
		}
		form := slowBytes(n)
		for range n {
			form += m.form(c, kind[1:], left-1)
		}
		return form
	case '?':
		if left <= 0 || m.r.Intn(3) == 0 {
			return "\x00"
		}
		return "\x01" + m.form(c, kind[1:], left-1)
	case '@':
		def, _ := typeOf(c, kind[1:len(kind)-1])
		if def.sort == "R" {
			return m.recordForm(c, def, left)
		}
		if def.sort == "U" {
			f := def.fields[m.r.Intn(len(def.fields))]
			if left <= 0 {
				f = def.fields[0]
			}
			return slowBytes(f.tag) + m.sized(m.form(c, f.kind, left-1))
		}
	}
	return slowPut(c, kind, m.value(c, kind, left))
}

// recordForm is the form of a record.
func (m valueMaker) recordForm(c schemaCase, def schemaType, left int) string {
	parts := map[int]string{}
	for range m.r.Intn(3) {
		parts[m.tag()] = strings.Repeat(m.junk(), 1+m.r.Intn(2))
	}
	for _, f := range def.fields {
		delete(parts, f.tag)
		switch {
		case m.r.Intn(4) == 0:
			parts[f.tag] = slowPut(c, f.kind, f.stand)
		case left > 0 && m.r.Intn(3) > 0:
			parts[f.tag] = m.form(c, f.kind, left-1)
		}
	}
	tags := slices.Sorted(maps.Keys(parts))
	// Once in a while tags do not ascend.
	if len(tags) > 1 && m.r.Intn(40) == 0 {
		tags[0] = tags[1+m.r.Intn(len(tags)-1)]
	}
	form := ""
	for _, tag := range tags {
		form += slowBytes(tag) + m.sized(parts[tag])
	}
	return form + "\x00"
}

// tag is one that bytes of a record may tell; now and then it is more than TagTop.
func (m valueMaker) tag() int {
	switch m.r.Intn(8) {
	case 0:
		return 201 + m.r.Intn(200)
	case 1:
		return 201 + m.r.Intn(999999-200)
	}
	return 1 + m.r.Intn(200)
}

// sized is how many bytes there are, and these; once in a while it is one more or less.
func (m valueMaker) sized(s string) string {
	n := len(s)
	if m.r.Intn(80) == 0 {
		n = max(0, n+2*m.r.Intn(2)-1)
	}
	return slowBytes(n) + s
}

// junk is a few bytes.
func (m valueMaker) junk() string {
	s := ""
	for range m.r.Intn(6) {
		at := m.r.Intn(len(someBytes))
		s += someBytes[at : at+1]
	}
	return s
}

// madeForm is bytes with a schema and a kind.
type madeForm struct {
	c           schemaCase
	kind, bytes string
}

// someForms are forms, written-out ones and made ones; most are read, and some are not.
func someForms(t *testing.T, n int, kindOf func(valueMaker, schemaCase) string) []madeForm {
	t.Helper()
	m := valueMaker{rand.New(rand.NewSource(5))}
	cases := m.schemas(t, 1000)
	plain := []schemaCase{schemaRead(t, plainSchema), schemaRead(t, fullSchema), schemaRead(t, deepSchema)}
	var forms []madeForm
	for _, c := range bytesCases {
		forms = append(forms, madeForm{schemaRead(t, c.schema), c.kind, c.bytes})
	}
	for _, c := range readCases {
		forms = append(forms, madeForm{schemaRead(t, c.schema), c.kind, c.bytes})
	}
	for range n {
		c := cases[m.r.Intn(len(cases))]
		if m.r.Intn(3) == 0 {
			c = plain[m.r.Intn(len(plain))]
		}
		kind := kindOf(m, c)
		forms = append(forms, madeForm{c, kind, m.form(c, kind, 1+m.r.Intn(6))})
	}
	return forms
}

// readForm is bytes that are read, with the value that they are.
type readForm struct {
	madeForm
	text string
}

// readForms are those of some forms that are read.
func readForms(t *testing.T, n int, kindOf func(valueMaker, schemaCase) string) []readForm {
	t.Helper()
	var forms []readForm
	for _, f := range someForms(t, n, kindOf) {
		if text, ok := impl.BytesGet(f.c.text, f.kind, f.bytes); ok {
			forms = append(forms, readForm{f, text})
		}
	}
	if len(forms) < n/2 {
		t.Fatalf("only %d of %d made forms are read", len(forms), n)
	}
	return forms
}

func TestBytesLimit(t *testing.T) {
	if impl.BytesTop != 600 {
		t.Errorf("BytesTop = %d", impl.BytesTop)
	}
}

func TestBytesCases(t *testing.T) {
	for _, c := range bytesCases {
		checkPut(t, c.schema, c.kind, c.text, c.bytes, true)
		checkGet(t, c.schema, c.kind, c.bytes, c.text, true)
		checkCanon(t, c.schema, c.kind, c.bytes, true)
		if !checkLikeSlowForm(t, schemaRead(t, c.schema), c.kind, c.bytes) || slowPut(schemaRead(t, c.schema), c.kind, c.text) != c.bytes {
			t.Errorf("the slow reading does not take %q as %q", c.bytes, c.text)
		}
	}
}

func TestBytesReadCases(t *testing.T) {
	for _, c := range readCases {
		checkGet(t, c.schema, c.kind, c.bytes, c.text, true)
		checkCanon(t, c.schema, c.kind, c.bytes, false)
		checkSkip(t, c.schema, c.kind, c.bytes, c.skip, c.skip != nil)
		if !checkLikeSlowForm(t, schemaRead(t, c.schema), c.kind, c.bytes) {
			t.Errorf("the slow reading does not take %q", c.bytes)
		}
	}
}

func TestBytesNotRead(t *testing.T) {
	for _, c := range notBytes {
		for _, s := range c.forms {
			checkNoForm(t, c.schema, c.kind, s)
			if checkLikeSlowForm(t, schemaRead(t, c.schema), c.kind, s) {
				t.Errorf("the slow reading takes %q as a value of %q of %q", s, c.kind, c.schema)
			}
		}
	}
}

func TestBytesPutOfNoValue(t *testing.T) {
	for _, c := range notValues {
		for _, s := range c.texts {
			checkPut(t, c.schema, c.kind, s, "", false)
		}
	}
	// Texts that are just too long, or too deep, to be values.
	checkPut(t, "", "[[t", longValue(400), slowPut(schemaCase{}, "[[t", longValue(400)), true)
	checkPut(t, "", "[[t", longValue(401), "", false)
	for n := range 20 {
		s := strings.Repeat("{1=", n) + "{5='a'}" + strings.Repeat("}", n)
		want, wantOk := slowPut(schemaRead(t, deepSchema), "@n;", s), n+2 <= 12
		if !wantOk {
			want = ""
		}
		checkPut(t, deepSchema, "@n;", s, want, wantOk)
	}
}

func TestBytesOfNoSchema(t *testing.T) {
	check := func(schema string, kind string) {
		for _, s := range []string{"", "\x00", "\x01", "\x01\x00", "\x01\x01\x00", "\x01\x01\x07\x00"} {
			checkNoForm(t, schema, kind, s)
		}
		for _, s := range []string{"", "0", "''", "no", "[]", "-", "{}", "#1", "<1=0>", "{1=8}"} {
			checkPut(t, schema, kind, s, "", false)
		}
	}
	for _, schema := range notSchemas {
		for _, kind := range []string{"n", "t", "f", "[n", "?n", "@a;", "@b;", "?@a;"} {
			check(schema, kind)
		}
	}
	for _, c := range bytesCases {
		for _, schema := range []string{c.schema + "\n", c.schema + "x", c.schema + "Rzz=1:a:@yy;\n", strings.Repeat("Rzz=\n", 100)} {
			checkNoForm(t, schema, c.kind, c.bytes)
			checkPut(t, schema, c.kind, c.text, "", false)
		}
	}
}

func TestBytesOfNoKind(t *testing.T) {
	kinds := append([]string{"@x;", "[@x;", "?@x;", "??@xyz;", "@ab;", "[[[[[[[[[[[[n", "????????????f", strings.Repeat("[", 1<<16) + "n"}, notKinds...)
	for _, kind := range kinds {
		for _, s := range []string{"", "\x00", "\x01", "\x01\x00", "\x01\x01\x00", "\x01\x01\x07\x00"} {
			checkNoForm(t, plainSchema, kind, s)
		}
		for _, s := range someParts {
			checkPut(t, plainSchema, kind, s, "", false)
		}
	}
}

// TestBytesOfOtherKinds holds each of some forms against the definition for each of some kinds.
func TestBytesOfOtherKinds(t *testing.T) {
	for _, schema := range []string{"", plainSchema, fullSchema, deepSchema} {
		c := schemaRead(t, schema)
		kinds := []string{"n", "t", "f"}
		for _, def := range c.types {
			kinds = append(kinds, "@"+def.name+";")
		}
		for _, kind := range kinds {
			for _, signs := range []string{"", "[", "?", "[[", "[?", "?[", "??"} {
				checkLikeSlowForm(t, c, signs+kind, "")
				for _, v := range bytesCases {
					checkLikeSlowForm(t, c, signs+kind, v.bytes)
				}
				for _, v := range readCases {
					checkLikeSlowForm(t, c, signs+kind, v.bytes)
				}
			}
		}
	}
}

func TestBytesShortForms(t *testing.T) {
	for _, look := range []struct {
		kind, bytes string
		size        int
	}{
		{"n", "\x00\x01\x3d\x7f\x80\x84\xbf\xc0\xff", 4}, {"t", "\x00\x01\x02\x0c\x0daA \x80", 4}, {"f", "\x00\x01\x02\x7f\x80\x81", 3}, {"[n", "\x00\x01\x02\x03\x80\x81", 5}, {"?n", "\x00\x01\x02\x80\x81", 4}, {"[?f", "\x00\x01\x02\x03", 6},
		{"[t", "\x00\x01\x02\x03a", 6}, {"@a;", "\x00\x01\x02\x03\x05", 6}, {"@a;", "\x00\x01\x02\x04\x80a", 6}, {"@b;", "\x00\x01\x02\x03\x80", 5}, {"@c;", "\x00\x01\x02\x03\x80\x81", 3}, {"[@c;", "\x00\x01\x02\x03", 4}, {"?@b;", "\x00\x01\x02\x03", 5},
	} {
		c := schemaRead(t, plainSchema)
		reads := 0
		eachText("", look.bytes, look.size, func(s string) {
			if checkLikeSlowForm(t, c, look.kind, s) {
				reads++
			}
		})
		if reads == 0 {
			t.Errorf("no form of %q is read as a value of %q", look.bytes, look.kind)
		}
	}
}

func TestBytesChangedByOneByte(t *testing.T) {
	check := func(c schemaCase, kind string, s string) {
		reads := 0
		changedTexts(s, someBytes, func(s string) {
			if checkLikeSlowForm(t, c, kind, s) {
				reads++
			}
			checkLikeSlowFields(t, s)
		})
		// The form is among its own beginnings.
		if reads == 0 {
			t.Errorf("no changed form of %q is read as a value of %q", s, kind)
		}
	}
	for _, c := range bytesCases {
		check(schemaRead(t, c.schema), c.kind, c.bytes)
	}
	for _, c := range readCases {
		if len(c.bytes) < 100 {
			check(schemaRead(t, c.schema), c.kind, c.bytes)
		}
	}
}

func TestBytesAnyByte(t *testing.T) {
	for b := range 256 {
		x := string([]byte{byte(b)})
		for _, v := range bytesCases {
			c := schemaRead(t, v.schema)
			checkLikeSlowForm(t, c, v.kind, x+v.bytes)
			checkLikeSlowForm(t, c, v.kind, v.bytes+x)
			checkLikeSlowForm(t, c, v.kind, v.bytes[:len(v.bytes)/2]+x+v.bytes[len(v.bytes)/2:])
		}
		for _, look := range []struct {
			kind, bytes string
			read        bool
		}{
			{"f", x, b <= 1}, {"[f", "\x02\x01" + x, b <= 1}, {"?f", "\x01" + x, b <= 1},
			{"?n", x, b == 0}, {"?n", x + "\x05", b == 1}, {"[?n", "\x02\x00" + x, b == 0}, {"[?n", "\x02\x00" + x + "\x05", b == 1}, {"??n", "\x01" + x, b == 0},
			{"t", "\x01" + x, b >= 'a' && b <= 'z' || b >= '0' && b <= '9' || b == ' '},
			{"n", x, b < 128},
			{"@c;", x, b == 1 || b == 2},
			{"@a;", "\x01\x01\x07" + x, b == 0},
		} {
			if _, ok := impl.BytesGet(plainSchema, look.kind, look.bytes); ok != look.read {
				t.Errorf("BytesGet(%q, %q) is read: %v", look.kind, look.bytes, ok)
			}
		}
	}
}

func TestBytesMade(t *testing.T) {
	m := valueMaker{rand.New(rand.NewSource(6))}
	reads, others := 0, 0
	check := func(c schemaCase, kind string, s string) {
		if checkLikeSlowForm(t, c, kind, s) {
			reads++
		} else {
			others++
		}
		checkLikeSlowFields(t, s)
	}
	for _, f := range someForms(t, 10000, valueMaker.kind) {
		check(f.c, f.kind, f.bytes)
		at := m.r.Intn(len(f.bytes))
		sign := string(someBytes[m.r.Intn(len(someBytes))])
		check(f.c, f.kind, f.bytes[:at]+sign+f.bytes[at+1:])
		check(f.c, f.kind, f.bytes[:at]+f.bytes[at+1:])
		check(f.c, f.kind, f.bytes[:at]+sign+f.bytes[at:])
		check(f.c, f.kind, f.bytes+sign)
	}
	if reads < 5000 || others < 5000 {
		t.Errorf("%d forms are read, %d are not", reads, others)
	}
}

func TestBytesNumbers(t *testing.T) {
	for n := 0; n <= 999999; n = n*5/4 + 1 {
		s := slowBytes(n)
		checkPut(t, "", "n", strconv.Itoa(n), s, true)
		checkGet(t, "", "n", s, strconv.Itoa(n), true)
		// A needless last digit 0, where a digit ahead of it is no last one.
		needless := s[:len(s)-1] + string([]byte{s[len(s)-1] + 128, 0})
		checkNoForm(t, "", "n", needless)
		checkNoForm(t, plainSchema, "@a;", "\x01"+slowSized(needless)+"\x00")
		checkNoForm(t, plainSchema, "@a;", needless+"\x00\x00")
	}
	for _, s := range []string{"\xc0\x84\x3d", "\xff\x84\x3d", "\xc0\x84\x3e", "\x80\x80\x40", "\xff\xff\x7f"} {
		checkNoForm(t, "", "n", s)
		checkNoForm(t, "", "t", s)
		checkNoForm(t, "", "[n", s)
		checkNoForm(t, "", "?n", "\x01"+s)
		checkNoForm(t, plainSchema, "@a;", s+"\x00\x00")
		checkNoForm(t, plainSchema, "@a;", "\x03"+s+"\x00")
		checkNoForm(t, plainSchema, "@b;", s+"\x01\x00")
		checkNoForm(t, plainSchema, "@b;", "\x01"+s)
		checkNoForm(t, plainSchema, "@c;", s)
	}
}

func TestBytesTextTop(t *testing.T) {
	for size := range 300 {
		text := strings.Repeat("z", size)
		want, ok := "'"+text+"'", size <= 12
		if !ok {
			want = ""
		}
		checkGet(t, "", "t", slowSized(text), want, ok)
		// Too long a text is none either in a field, but any bytes are left out.
		c := schemaRead(t, "Ra=1:x:t,2:y:n\n")
		if isRead := checkLikeSlowForm(t, c, "@a;", "\x01"+slowSized(slowSized(text))+"\x00"); isRead != ok {
			t.Errorf("a text of %d bytes is read: %v", size, isRead)
		}
		if !checkLikeSlowForm(t, c, "@a;", "\x03"+slowSized(slowSized(text))+"\x00") {
			t.Errorf("a text of %d bytes is not left out", size)
		}
	}
}

func TestBytesItemTop(t *testing.T) {
	c := schemaRead(t, plainSchema)
	for kind, item := range map[string]string{"n": "\x05", "t": "\x00", "f": "\x01", "?n": "\x00", "[n": "\x00", "??n": "\x01\x00", "@a;": "\x00", "@b;": "\x01\x01\x00", "@c;": "\x02"} {
		for n := range 200 {
			s := slowBytes(n) + strings.Repeat(item, n)
			if isRead := checkLikeSlowForm(t, c, "["+kind, s); isRead != (n <= 20) {
				t.Errorf("%q with %d items is read: %v", s, n, isRead)
			}
			checkLikeSlowForm(t, c, "[["+kind, "\x02"+s+"\x00")
			checkNoForm(t, c.text, "["+kind, slowBytes(n+1)+strings.Repeat(item, n))
			checkNoForm(t, c.text, "["+kind, slowBytes(n)+strings.Repeat(item, n+1))
		}
	}
}

// wideForm is the form of a record with as many bytes as are asked for, at least 140, with one field that is known and one that is not.
func wideForm(size int) string {
	return "\x01\x01\x07\x03" + slowSized(strings.Repeat("\xee", size-7)) + "\x00"
}

func TestBytesTop(t *testing.T) {
	c := schemaRead(t, plainSchema)
	for size := 140; size <= 700; size++ {
		s := wideForm(size)
		if isRead := checkLikeSlowForm(t, c, "@a;", s); len(s) != size || isRead != (size <= 600) {
			t.Errorf("a form of %d bytes, %d wanted, is read: %v", len(s), size, isRead)
		}
		if isRead := checkLikeSlowForm(t, c, "?@a;", "\x01"+s); isRead != (size <= 599) {
			t.Errorf("a form of %d bytes is read: %v", size+1, isRead)
		}
		checkLikeSlowFields(t, s)
	}
	checkGet(t, plainSchema, "@a;", wideForm(600), "{1=7}", true)
	checkSkip(t, plainSchema, "@a;", wideForm(600), []int{3}, true)
	checkBytesField(t, wideForm(600), 1, "\x07", true)
	checkBytesField(t, wideForm(600), 3, strings.Repeat("\xee", 593), true)
	checkNoForm(t, plainSchema, "@a;", wideForm(601))
	checkBytesField(t, wideForm(601), 1, "", false)
	checkBytesField(t, wideForm(601), 3, "", false)
}

// TestBytesNeverTooMany checks why BytesPut never fails for a value with too many bytes: they are no more than those of its text.
func TestBytesNeverTooMany(t *testing.T) {
	check := func(c schemaCase, kind string, text string) {
		form, ok := impl.BytesPut(c.text, kind, text)
		if !ok || len(form) > len(text) {
			t.Errorf("BytesPut(%q, %q, %q) has %d bytes, of %d, %v", c.text, kind, text, len(form), len(text), ok)
		}
	}
	for _, v := range someValues(t, 4000) {
		check(v.c, v.kind, v.text)
	}
	// Many bytes for few signs: long texts that may be there.
	for items := range 16 {
		list := strings.TrimSuffix(strings.Repeat("+++++++++'zzzzzzzzzzzz',", items+1), ",")
		check(schemaCase{}, "[?????????t", "["+list+"]")
	}
	// A record with one long field, again and again.
	c := schemaRead(t, "Ra=1:x:@a;,2:y:[t,200:z:n\n")
	for n := range 10 {
		for items := range 20 {
			list := strings.TrimSuffix(strings.Repeat("'zzzzzzzzzzzz',", items+1), ",")
			check(c, "@a;", strings.Repeat("{1=", n)+"{2=["+list+"],200=1}"+strings.Repeat("}", n))
		}
	}
}

func TestBytesReadTooLong(t *testing.T) {
	const schema = "Ra=1:x:[[t,2:y:n,30:z:t='a',31:w:f\n"
	c := schemaRead(t, schema)
	for size := 390; size <= 402; size++ {
		part := slowPut(c, "[[t", longValue(size))
		if isRead := checkLikeSlowForm(t, c, "[[t", part); isRead != (size <= 400) {
			t.Errorf("a text of %d bytes is read: %v", size, isRead)
		}
		record := "\x01" + slowSized(part)
		for tail, fits := range map[string]int{
			"": 396,
			// What is left out, or comes to be its standing value, does not count.
			"\x02\x01\x00": 396, "\x02\x01\x00\x1e\x02\x01a\x1f\x01\x00": 396, "\x03\x05abcde": 396,
			"\x02\x01\x07": 392, "\x1f\x01\x01": 389, "\x1e\x01\x00": 390,
		} {
			if isRead := checkLikeSlowForm(t, c, "@a;", record+tail+"\x00"); isRead != (size <= fits) {
				t.Errorf("a text of %d bytes, with %q behind it, is read: %v", size, tail, isRead)
			}
		}
	}
	// Few bytes may be many more than fit.
	for n := range 20 {
		checkLikeSlowForm(t, c, "[[f", slowBytes(n)+strings.Repeat("\x14"+strings.Repeat("\x01", 20), n))
	}
	lengths := map[int]bool{}
	for yes := range 18 {
		for no := range 4 {
			s := "\x05" + strings.Repeat("\x14"+strings.Repeat("\x01", 20), 4) + slowBytes(yes+no) + strings.Repeat("\x01", yes) + strings.Repeat("\x00", no)
			form, _ := slowReadAll(c, "[[f", s)
			lengths[len(form.text)] = true
			if isRead := checkLikeSlowForm(t, c, "[[f", s); isRead != (len(form.text) <= 400) {
				t.Errorf("a text of %d bytes is read: %v", len(form.text), isRead)
			}
		}
	}
	if !lengths[400] || !lengths[401] {
		t.Errorf("no text of 400 bytes, or of 401 bytes, was told")
	}
}

// nested is bytes put n times behind a sign into a field of a tag, with a tail behind it.
func nested(n int, tag string, sign string, inner string, tail string) string {
	for range n {
		inner = tag + slowSized(sign+inner) + tail
	}
	return inner
}

func TestBytesDeepTop(t *testing.T) {
	c := schemaRead(t, deepSchema)
	for n := range 40 {
		for _, look := range []struct {
			kind, bytes string
			deep        int
		}{
			{"@n;", nested(n, "\x01", "", "\x05\x02\x01a\x00", "\x00"), n + 2},
			{"@n;", nested(n, "\x02", "\x01", "\x00", "\x00"), 2*n + 1},
			{"@n;", nested(n, "\x03", "\x01", "\x05\x02\x01a\x00", "\x00"), 2*n + 2},
			{"@d;", nested(n, "\x02", "", "\x01\x01\x00", ""), n + 2},
			{"[@d;", "\x01" + nested(n, "\x02", "", "\x01\x01\x00", ""), n + 3},
			{"??@d;", "\x01\x01" + nested(n, "\x02", "", "\x01\x01\x00", ""), n + 4},
			// What comes to be its standing value counts all the same.
			{"@n;", nested(n, "\x01", "", "\x00", "\x00"), n + 1},
			{"@n;", nested(n, "\x01", "", "\x05\x01\x00\x00", "\x00"), n + 2},
			{"@n;", nested(n, "\x01", "", "\x04\x03\x01\x01\x00\x00", "\x00"), n + 3},
			{"@n;", nested(n, "\x01", "", "\x04\x03\x01\x01\x00\x05\x02\x01a\x00", "\x00"), n + 3},
			// What the type has not does not.
			{"@n;", nested(n, "\x09", "", "\x00", "\x00"), 1},
			{"@n;", nested(n, "\x01", "", "\x09\x03\x01\x01\x00\x00", "\x00"), n + 1},
			{"@n;", "\x09" + slowSized(nested(n, "\x01", "", "\x00", "\x00")) + "\x00", 1},
			{"@n;", nested(n, "\xc9\x01", "", "\x00", "\x00"), 1},
			{"@n;", nested(n, "\x01", "", "\xbf\x84\x3d\x03\x01\x01\x00\x00", "\x00"), n + 1},
			{"@n;", nested(11, "\x01", "", "\x09"+slowSized(nested(n, "\x01", "", "\x00", "\x00"))+"\x00", "\x00"), 12},
		} {
			if isRead := checkLikeSlowForm(t, c, look.kind, look.bytes); isRead != (look.deep <= 12) {
				t.Errorf("BytesGet(%q, %q), which is %d deep, is read: %v", look.kind, look.bytes, look.deep, isRead)
			}
		}
	}
	for n := range 15 {
		list := strings.Repeat("\x01", n)
		checkLikeSlowForm(t, c, "[[[[[[[[[[[n", list+"\x00")
		checkLikeSlowForm(t, c, "[[[[[[[[[[[n", list+"\x05")
		checkLikeSlowForm(t, c, "???????????n", list+"\x00")
		checkLikeSlowForm(t, c, "@n;", "\x06"+slowSized(list+"\x00")+"\x00")
		checkLikeSlowForm(t, c, "@n;", "\x06"+slowSized(list+"\x05")+"\x00")
	}
	// As deep as a value may be; and one more deep, in a field.
	checkGet(t, deepSchema, "[[[[[[[[[[[n", "\x01\x01\x01\x01\x01\x01\x01\x01\x01\x01\x01\x05", "[[[[[[[[[[[5]]]]]]]]]]]", true)
	checkNoForm(t, deepSchema, "@n;", "\x06\x0c\x01\x01\x01\x01\x01\x01\x01\x01\x01\x01\x01\x05\x00")
	checkGet(t, deepSchema, "@n;", "\x06\x0b\x01\x01\x01\x01\x01\x01\x01\x01\x01\x01\x00\x00", "{6=[[[[[[[[[[[]]]]]]]]]]]}", true)
}

func TestBytesTags(t *testing.T) {
	c := schemaRead(t, "Ra=1:x:n,19:y:n,200:z:n\nUb=1:x:n,19:y:n,200:z:n\nEc=1:x,19:y,200:z\n")
	tags := []int{16382, 16383, 16384, 16385, 65537, 999998, 999999}
	for tag := range 1030 {
		tags = append(tags, tag)
	}
	for _, tag := range tags {
		s := slowBytes(tag)
		own := tag == 1 || tag == 19 || tag == 200
		for _, look := range []struct {
			kind, bytes string
			read        bool
		}{
			{"@a;", s + "\x01\x08\x00", tag >= 1},
			{"@a;", s + "\x01\x80\x00", tag >= 1 && !own},
			{"@a;", "\x13\x01\x08" + s + "\x01\x08\x00", tag > 19},
			{"@a;", "\xc8\x01\x01\x08" + s + "\x01\x08\x00", tag > 200},
			{"@a;", s + "\x01\x08\x13\x01\x08\x00", tag >= 1 && tag < 19},
			{"@b;", s + "\x01\x08", own},
			{"@c;", s, own},
		} {
			if isRead := checkLikeSlowForm(t, c, look.kind, look.bytes); isRead != look.read {
				t.Errorf("BytesGet(%q, %q) is read: %v", look.kind, look.bytes, isRead)
			}
		}
		field, ok := "\x08", tag >= 1 && tag <= 200
		if !ok {
			field = ""
		}
		checkBytesField(t, s+"\x01\x08\x00", tag, field, ok)
	}
}

// TestBytesTagsOfARecord has all rows of up to four tags, of which few ascend.
func TestBytesTagsOfARecord(t *testing.T) {
	c := schemaRead(t, "Ra=2:x:n,9:y:n,128:z:n\n")
	reads := 0
	eachText("", "\x02\x03\x09\x80\xff", 4, func(row string) {
		s := ""
		for i := range len(row) {
			s += slowBytes(int(row[i])) + "\x01\x01"
		}
		if checkLikeSlowForm(t, c, "@a;", s+"\x00") {
			reads++
		}
		checkLikeSlowFields(t, s)
	})
	// Of five tags there are so many rows of up to four that ascend.
	if want := 1 + 5 + 10 + 10 + 5; reads != want {
		t.Errorf("%d rows of tags are read, want %d", reads, want)
	}
}

func TestBytesVeryLong(t *testing.T) {
	many := 1 << 20
	for _, look := range []string{"\x00", "\x01", "\x02", "\x03\x01\x00", "\x80", "\x80\x01", "\xff", "a", "\x01\x01\x07", "\x01\xbf\x84\x3d"} {
		for _, kind := range []string{"n", "t", "f", "[n", "?n", "[[[[[[[[[[[n", "@n;", "@d;", "[@n;"} {
			s := strings.Repeat(look, many/len(look))
			if text, ok := impl.BytesGet(deepSchema, kind, s); text != "" || ok {
				t.Errorf("%d bytes that begin with %q are read as a value of %q", len(s), look, kind)
			}
			tags, ok := impl.BytesSkip(deepSchema, kind, s)
			if impl.BytesCanon(deepSchema, kind, s) || len(tags) > 0 || ok {
				t.Errorf("%d bytes that begin with %q are those of a value of %q", len(s), look, kind)
			}
			if part, ok := impl.BytesField(s, 1); part != "" || ok {
				t.Errorf("%d bytes that begin with %q have a field", len(s), look)
			}
			if form, ok := impl.BytesPut(deepSchema, kind, s); form != "" || ok {
				t.Errorf("a text of %d bytes that begins with %q has bytes", len(s), look)
			}
		}
	}
}

func TestBytesSkipOfNoRecord(t *testing.T) {
	for _, c := range []struct{ kind, bytes string }{
		{"n", "\x00"}, {"t", "\x00"}, {"f", "\x00"}, {"[n", "\x00"}, {"?n", "\x00"}, {"[@a;", "\x01\x00"}, {"[@a;", "\x01\x09\x00\x00"}, {"?@a;", "\x00"}, {"?@a;", "\x01\x09\x00\x00"}, {"??@a;", "\x01\x01\x00"}, {"@b;", "\x01\x01\x00"}, {"@b;", "\x03\x04\x09\x01\x01\x00"}, {"@c;", "\x01"},
	} {
		if _, ok := impl.BytesGet(plainSchema, c.kind, c.bytes); !ok {
			t.Errorf("BytesGet(%q, %q) fails", c.kind, c.bytes)
		}
		checkSkip(t, plainSchema, c.kind, c.bytes, nil, false)
	}
}

func TestBytesSkipNewMemory(t *testing.T) {
	const s = "\x03\x00\x05\x00\x00"
	first, _ := impl.BytesSkip(plainSchema, "@a;", s)
	first[0] = 99
	checkSkip(t, plainSchema, "@a;", s, []int{3, 5}, true)
}

func TestBytesFieldCases(t *testing.T) {
	for _, look := range []struct {
		bytes string
		tag   int
		want  string
	}{
		{"\x01\x01\x07\x00", 1, "\x07"},
		{"\x01\x01\x07\x02\x04\x01\x02hi\x00", 2, "\x01\x02hi"},
		{"\x01\x00\x00", 1, ""},
		{"\xc8\x01\x01\x14\x00", 200, "\x14"},
		{"\x01\x00\x80\x01\x02ab\xc8\x01\x00\x00", 128, "ab"},
		{"\x03\x80\x01" + strings.Repeat("x", 128) + "\x00", 3, strings.Repeat("x", 128)},
		// The values ahead need not be any.
		{"\x01\x03\xff\xff\xff\x02\x02\x80\x80\x05\x01\x05\x00", 5, "\x05"},
		{"\x01\x03\xff\xff\xff\x02\x02\x80\x80\x05\x01\x05\x00", 2, "\x80\x80"},
		// What is behind the field may be anything, also nothing.
		{"\x01\x01\x07", 1, "\x07"},
		{"\x01\x00", 1, ""},
		{"\x01\x01\x07\x01\x01\x08\x00", 1, "\x07"},
		{"\x05\x01\x07\x03\x01\x08\x00", 5, "\x07"},
		{"\x01\x01\x07\x02\x09", 1, "\x07"},
		{"\x01\x01\x07\x80\x00", 1, "\x07"},
		{"\x01\x01\x07\xff\xff\xff\xff", 1, "\x07"},
		{"\x01\x01\x07\xc9\x01\x00", 1, "\x07"},
		{"\x01\x01\x07\x00\x00\x00", 1, "\x07"},
	} {
		checkBytesField(t, look.bytes, look.tag, look.want, true)
		checkLikeSlowFields(t, look.bytes)
	}
}

func TestBytesFieldInvalid(t *testing.T) {
	for _, look := range []struct {
		bytes string
		tag   int
	}{
		{"", 1}, {"\x00", 1}, {"\x01", 1}, {"\x01\x01", 1}, {"\x01\x02\x07", 1}, {"\x02\x01\x07\x00", 1}, {"\x01\x01\x07\x00", 2}, {"\x01\x01\x07\x03\x01\x07\x00", 2},
		// Behind the byte 0, or behind one that is cut off.
		{"\x00\x01\x01\x07\x00", 1}, {"\x01\x01\x07\x00\x02\x01\x07\x00", 2}, {"\x01\x05\x07\x02\x01\x07", 2}, {"\x01\x04\x07\x02\x01\x07", 2},
		// Tags that do not ascend, or come twice, ahead of the field or by it.
		{"\x03\x00\x02\x00\x05\x01\x07\x00", 5}, {"\x03\x00\x03\x00\x05\x01\x07\x00", 5}, {"\x05\x00\x03\x01\x07\x00", 3}, {"\xc8\x01\x00\x05\x00\x00", 5}, {"\xc9\x01\x00\x05\x01\x07\x00", 5}, {"\xbf\x84\x3d\x00\xc8\x01\x01\x07\x00", 200},
		// Numbers that are none.
		{"\x81\x00\x01\x07\x00", 1}, {"\x01\x81\x00\x07\x00", 1}, {"\x01\x80\x00\x02\x01\x07\x00", 2}, {"\x80\x00\x02\x01\x07\x00", 2}, {"\x81\x80\x00\x00\x02\x01\x07\x00", 2}, {"\x01\xc0\x84\x3d\x02\x01\x07\x00", 2}, {"\x01\xff\xff\xff\x7f\x02\x01\x07\x00", 2}, {"\x01\x80", 1}, {"\x80", 128}, {"\x80\x01", 128},
		// Tags that are not in 1 to TagTop; also where they are told.
		{"\x00\x01\x07\x00", 0}, {"\xc9\x01\x01\x07\x00", 201}, {"\x01\x01\x07\xc9\x01\x01\x07\x00", 201}, {"\xf4\x02\x03\xbf\x84=\x00", 372}, {"\x80\x02\x01\x07\x00", 256}, {"\x01\x01\x07\x00", 257}, {"\x01\x01\x07\x00", 65537}, {"\xbf\x84\x3d\x01\x07\x00", 999999},
	} {
		checkBytesField(t, look.bytes, look.tag, "", false)
		checkLikeSlowFields(t, look.bytes)
	}
	for _, tag := range []int{math.MinInt, math.MinInt + 1, -1, 0, 201, math.MaxInt32, 1<<32 + 1, math.MaxInt} {
		for _, c := range bytesCases {
			checkBytesField(t, c.bytes, tag, "", false)
		}
	}
}

func TestBytesFieldShortForms(t *testing.T) {
	fields := 0
	eachText("", "\x00\x01\x02\x03\x80", 6, func(s string) {
		for tag := -1; tag <= 4; tag++ {
			want, ok := slowBytesField(s, tag)
			checkBytesField(t, s, tag, want, ok)
			if ok {
				fields++
			}
		}
	})
	if fields < 1000 {
		t.Errorf("only %d fields are told", fields)
	}
}

func TestPromise24BytesGetOfBytesPut(t *testing.T) {
	for _, v := range someValues(t, 8000) {
		form := slowPut(v.c, v.kind, v.text)
		checkPut(t, v.c.text, v.kind, v.text, form, true)
		checkGet(t, v.c.text, v.kind, form, v.text, true)
		checkCanon(t, v.c.text, v.kind, form, true)
	}
}

func TestPromise25BytesGetIsAValue(t *testing.T) {
	shorter := 0
	for _, f := range readForms(t, 8000, valueMaker.kind) {
		if !impl.ValueOk(f.c.text, f.kind, f.text) {
			t.Errorf("BytesGet(%q, %q, %q) = %q, which is no value", f.c.text, f.kind, f.bytes, f.text)
		}
		form, ok := impl.BytesPut(f.c.text, f.kind, f.text)
		if !ok || len(form) > len(f.bytes) {
			t.Errorf("BytesPut(%q, %q, %q) = %q, %v, of what was read of %q", f.c.text, f.kind, f.text, form, ok, f.bytes)
		}
		checkGet(t, f.c.text, f.kind, form, f.text, true)
		if len(form) < len(f.bytes) {
			shorter++
		}
	}
	if shorter < 1000 {
		t.Errorf("only %d forms have more bytes than they need", shorter)
	}
}

func TestPromise26BytesCanon(t *testing.T) {
	canons, others := 0, 0
	for _, f := range readForms(t, 8000, valueMaker.typeKind) {
		form, ok := impl.BytesPut(f.c.text, f.kind, f.text)
		canon := impl.BytesCanon(f.c.text, f.kind, f.bytes)
		if canon != (ok && form == f.bytes) {
			t.Errorf("BytesCanon(%q, %q, %q) = %v, but BytesPut of what is read is %q, %v", f.c.text, f.kind, f.bytes, canon, form, ok)
		}
		if !canon {
			others++
			continue
		}
		canons++
		_, isRecord := recordOf(f.c, f.kind)
		checkSkip(t, f.c.text, f.kind, f.bytes, nil, isRecord)
	}
	if canons < 1000 || others < 1000 {
		t.Errorf("%d forms are those of values, %d are not", canons, others)
	}
}

func TestPromise27BytesSkip(t *testing.T) {
	skips, above := 0, 0
	for _, f := range readForms(t, 8000, valueMaker.typeKind) {
		tags, ok := impl.BytesSkip(f.c.text, f.kind, f.bytes)
		def, isRecord := recordOf(f.c, f.kind)
		if ok != isRecord || !slices.IsSorted(tags) || len(slices.Compact(slices.Clone(tags))) != len(tags) {
			t.Errorf("BytesSkip(%q, %q, %q) = %v, %v", f.c.text, f.kind, f.bytes, tags, ok)
		}
		for _, tag := range tags {
			skips++
			if tag > 200 {
				above++
			}
			if _, found := fieldOf(def, tag); found || tag < 1 {
				t.Errorf("BytesSkip(%q, %q, %q) = %v, but %d is no tag, or is one of the type", f.c.text, f.kind, f.bytes, tags, tag)
			}
		}
	}
	if skips < 1000 || above < 100 {
		t.Errorf("only %d fields are left out, %d with tags of more than TagTop", skips, above)
	}
}

func TestPromise28BytesFieldStandsInTheBytes(t *testing.T) {
	fields := 0
	for _, f := range someForms(t, 8000, valueMaker.typeKind) {
		for tag := range 210 {
			part, ok := impl.BytesField(f.bytes, tag)
			if !ok {
				continue
			}
			fields++
			if !strings.Contains(f.bytes, slowBytes(tag)+slowSized(part)) {
				t.Errorf("BytesField(%q, %d) = %q, which does not stand there", f.bytes, tag, part)
			}
		}
	}
	if fields < 1000 {
		t.Errorf("only %d fields are told", fields)
	}
}

func TestPromise29NoPartAndNoLongerBytes(t *testing.T) {
	m := valueMaker{rand.New(rand.NewSource(29))}
	for _, v := range someValues(t, 3000) {
		form, ok := impl.BytesPut(v.c.text, v.kind, v.text)
		if !ok {
			t.Errorf("BytesPut(%q, %q, %q) fails", v.c.text, v.kind, v.text)
		}
		for i := range len(form) {
			checkNoForm(t, v.c.text, v.kind, form[:i])
		}
		for i := range len(someBytes) {
			checkNoForm(t, v.c.text, v.kind, form+someBytes[i:i+1])
		}
		checkNoForm(t, v.c.text, v.kind, form+form)
		checkNoForm(t, v.c.text, v.kind, form+"\x00"+m.junk())
	}
}

func TestPromise30FurtherField(t *testing.T) {
	m := valueMaker{rand.New(rand.NewSource(30))}
	further, above := 0, 0
	for _, v := range someRecords(t, 4000) {
		form, _ := impl.BytesPut(v.c.text, v.kind, v.text)
		def, _ := recordOf(v.c, v.kind)
		last := 0
		for tag := range v.told.fields {
			last = max(last, tag)
		}
		for range 8 {
			tag := last + 1 + m.r.Intn(8)
			switch m.r.Intn(8) {
			case 0:
				tag = 200 + m.r.Intn(2)
			case 1:
				tag = m.tag()
			}
			if _, found := fieldOf(def, tag); found || tag <= last {
				continue
			}
			further++
			if tag > 200 {
				above++
			}
			junk := m.junk()
			if m.r.Intn(10) == 0 {
				junk = strings.Repeat("\xff", m.r.Intn(600-len(form)-5))
			}
			more := form[:len(form)-1] + slowBytes(tag) + slowSized(junk) + "\x00"
			checkGet(t, v.c.text, v.kind, more, v.text, true)
			checkSkip(t, v.c.text, v.kind, more, []int{tag}, true)
			checkCanon(t, v.c.text, v.kind, more, false)
			if tag > 200 {
				// Such a field is left out, but cannot be asked for.
				junk = ""
			}
			checkBytesField(t, more, tag, junk, tag <= 200)
		}
	}
	if further < 1000 || above < 500 {
		t.Errorf("only %d further fields are told, %d with tags of more than TagTop", further, above)
	}
}

func TestPromise31SameBytesSameText(t *testing.T) {
	values := map[[3]string]string{}
	add := func(schema string, kind string, text string) {
		form, ok := impl.BytesPut(schema, kind, text)
		if !ok {
			t.Errorf("BytesPut(%q, %q, %q) fails", schema, kind, text)
		}
		key := [3]string{schema, kind, form}
		if other, found := values[key]; found && other != text {
			t.Errorf("BytesPut(%q, %q) of %q and of %q is %q", schema, kind, text, other, form)
		}
		values[key] = text
	}
	m := valueMaker{rand.New(rand.NewSource(31))}
	for _, schema := range []string{plainSchema, fullSchema, deepSchema} {
		c := schemaRead(t, schema)
		kinds := []string{"n", "t", "f", "[n", "?t", "[?f", "??n", "[[f"}
		for _, def := range c.types {
			kinds = append(kinds, "@"+def.name+";", "[@"+def.name+";", "?@"+def.name+";")
		}
		for _, kind := range kinds {
			for range 300 {
				text := m.value(c, kind, 1+m.r.Intn(5))
				if _, ok := slowValue(c, kind, text); ok {
					add(schema, kind, text)
				}
			}
		}
	}
	for n := 0; n <= 999999; n += 37 {
		add("", "n", strconv.Itoa(n))
	}
	if len(values) < 10000 {
		t.Errorf("only %d values are told", len(values))
	}
}

func TestPromise32BytesFieldOfBytesPut(t *testing.T) {
	fields := 0
	for _, v := range someRecords(t, 4000) {
		form, _ := impl.BytesPut(v.c.text, v.kind, v.text)
		def, _ := recordOf(v.c, v.kind)
		for _, f := range def.fields {
			if _, told := v.told.fields[f.tag]; !told {
				checkBytesField(t, form, f.tag, "", false)
				continue
			}
			fields++
			text, _ := impl.ValueField(v.c.text, v.kind, v.text, f.tag)
			part, ok := impl.BytesPut(v.c.text, f.kind, text)
			if !ok {
				t.Errorf("BytesPut(%q, %q, %q) fails", v.c.text, f.kind, text)
			}
			checkBytesField(t, form, f.tag, part, true)
		}
	}
	if fields < 1000 {
		t.Errorf("only %d fields are told", fields)
	}
}
