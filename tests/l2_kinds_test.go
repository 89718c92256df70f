package tests

import (
	"regexp"
	"slices"
	"strings"
	"testing"

	"loop.example/wireforms/impl"
)

// kindCase is a kind with all that is told of it, written out; a name of "" is none.
type kindCase struct {
	kind string
	deep int
	name string
}

var kindCases = []kindCase{
	{"n", 0, ""},
	{"t", 0, ""},
	{"f", 0, ""},
	{"@a;", 0, "a"},
	{"@z;", 0, "z"},
	{"@ab;", 0, "ab"},
	{"@abc;", 0, "abc"},
	{"@zzz;", 0, "zzz"},
	{"@n;", 0, "n"},
	{"@tf;", 0, "tf"},
	{"[n", 1, ""},
	{"?t", 1, ""},
	{"[@a;", 1, "a"},
	{"?@xyz;", 1, "xyz"},
	{"[[f", 2, ""},
	{"??f", 2, ""},
	{"[?n", 2, ""},
	{"?[@ab;", 2, "ab"},
	{"[[[[[[[[[[[n", 11, ""},
	{"???????????f", 11, ""},
	{"[?[?[?[@abc;", 7, "abc"},
	{"[[[[[[[[@ab;", 8, "ab"},
	{"?????????@a;", 9, "a"},
}

// notKinds are texts of up to KindTop bytes, and of more, that are no kinds.
var notKinds = []string{
	"", " ", ";", "@", "[", "?", "[[", "??", "[?", "x", "a", "N", "T", "F", "0", "\x00", "\xff", "\n", "number",
	"@;", "@a", "@abc", "@ab", "a;", "ab;", "@@a;", "@a;;", "@;a", "@;;", "[@", "[@;", "?@a", "@[n", "@?n", "@[a;", "@n", "@n[;",
	"@abcd;", "@abcde;", "@abcdefghij;", "[@abcd;", "?@abcd;", "[?[?[?@abcd;", "@abcdefghijkl;", "@aaaa;",
	"@A;", "@aB;", "@abC;", "@0;", "@a1;", "@ab2;", "@_;", "@a b;", "@ ;", "@ a;", "@a ;", "@-;", "@`;", "@{;", "@a`;", "@ab{;", "@\x00;", "@a\xff;", "@\xc3\xa9;", "@a\xc3\xa9;",
	"nn", "nt", "n ", " n", "n;", "n\n", "\nn", "n\x00", "f[", "n?", "n[n", "t@a;", "tn", "ff", "@a;n", "@a; ", "@a;\n", " @a;", "@a;@b;", "@abc;;", "[n]", "[n ", "[ n", "?n,", "[nn", "[n[n", "?@a;n",
	"[[[[[[[[[[[[", "????????????", "[[[[[[[[[[[x", "[[[[[[[[[[@a", "[[[[[[[[[[@;",
	"[[[[[[[[[[[[n", "????????????f", "?[?[?[?[@abc;", "[[[[[[[[[@ab;", "[?????????@a;", "nnnnnnnnnnnnn", "[[[[[[[[[[[[[", "?????????????????????????????????@a;",
}

// kindBytes are all bytes that a kind may have, and some that it has not.
const kindBytes = "[?@;ntfaz`{A0 \n\xe9"

// kindLook is a kind as the definition tells it, without its length.
var kindLook = regexp.MustCompile(`\A[\[?]*([ntf]|@([a-z]{1,3});)\z`)

// slowKind tells by the definition, without the program, whether a text is a kind, how deep it is, and what name it has.
func slowKind(s string) (kindCase, bool) {
	m := kindLook.FindStringSubmatch(s)
	if m == nil || len(s) > 12 {
		return kindCase{}, false
	}
	return kindCase{s, len(s) - len(m[1]), m[2]}, true
}

func checkKind(t *testing.T, c kindCase) {
	t.Helper()
	if !impl.KindOk(c.kind) {
		t.Errorf("KindOk(%q) = false", c.kind)
	}
	if deep := impl.KindDeep(c.kind); deep != c.deep {
		t.Errorf("KindDeep(%q) = %d, want %d", c.kind, deep, c.deep)
	}
	part, hasPart := "", c.deep > 0
	if hasPart {
		part = c.kind[1:]
	}
	if got, ok := impl.KindPart(c.kind); got != part || ok != hasPart {
		t.Errorf("KindPart(%q) = %q, %v, want %q, %v", c.kind, got, ok, part, hasPart)
	}
	name, isNamed := "", c.name != "" && c.deep == 0
	if isNamed {
		name = c.name
	}
	if got, ok := impl.KindName(c.kind); got != name || ok != isNamed {
		t.Errorf("KindName(%q) = %q, %v, want %q, %v", c.kind, got, ok, name, isNamed)
	}
	var refs []string
	if c.name != "" {
		refs = []string{c.name}
	}
	if got, ok := impl.KindRefs(c.kind); !slices.Equal(got, refs) || !ok {
		t.Errorf("KindRefs(%q) = %q, %v, want %q", c.kind, got, ok, refs)
	}
}

func checkNoKind(t *testing.T, s string) {
	t.Helper()
	if impl.KindOk(s) {
		t.Errorf("KindOk(%q) = true", s)
	}
	if deep := impl.KindDeep(s); deep != -1 {
		t.Errorf("KindDeep(%q) = %d, want -1", s, deep)
	}
	if part, ok := impl.KindPart(s); part != "" || ok {
		t.Errorf("KindPart(%q) = %q, %v, want no kind", s, part, ok)
	}
	if name, ok := impl.KindName(s); name != "" || ok {
		t.Errorf("KindName(%q) = %q, %v, want no name", s, name, ok)
	}
	if refs, ok := impl.KindRefs(s); len(refs) != 0 || ok {
		t.Errorf("KindRefs(%q) = %q, %v, want no names", s, refs, ok)
	}
}

// checkLikeSlow holds a text against the definition, and reports whether it is a kind.
func checkLikeSlow(t *testing.T, s string) bool {
	t.Helper()
	c, ok := slowKind(s)
	if ok {
		checkKind(t, c)
	} else {
		checkNoKind(t, s)
	}
	return ok
}

// eachText calls visit with all texts of the given bytes that begin with head and have up to size bytes more.
func eachText(head string, bytes string, size int, visit func(string)) {
	visit(head)
	if size == 0 {
		return
	}
	for i := range len(bytes) {
		eachText(head+bytes[i:i+1], bytes, size-1, visit)
	}
}

// someKinds are all kinds with n, t, f and a few names behind all signs.
func someKinds() []string {
	var kinds []string
	for _, last := range []string{"n", "t", "f", "@a;", "@zy;", "@nft;"} {
		eachText("", "[?", impl.KindTop-len(last), func(signs string) {
			kinds = append(kinds, signs+last)
		})
	}
	return kinds
}

// someTexts are kinds, texts that are none, and all short texts.
func someTexts() []string {
	texts := append(someKinds(), notKinds...)
	eachText("", kindBytes, 4, func(s string) {
		texts = append(texts, s)
	})
	return texts
}

func TestKindLimits(t *testing.T) {
	if impl.KindTop != 12 || impl.NameTop != 3 {
		t.Errorf("KindTop = %d, NameTop = %d, want 12, 3", impl.KindTop, impl.NameTop)
	}
}

func TestKindCases(t *testing.T) {
	for _, c := range kindCases {
		checkKind(t, c)
	}
}

func TestKindInvalid(t *testing.T) {
	for _, s := range notKinds {
		checkNoKind(t, s)
	}
}

func TestKindShortTexts(t *testing.T) {
	kinds := 0
	eachText("", kindBytes, 5, func(s string) {
		if checkLikeSlow(t, s) {
			kinds++
		}
	})
	// The letters of kindBytes are n, t, f, a and z.
	want := 3*(1+2+4+8+16) + 5*(1+2+4) + 25*(1+2) + 125
	if kinds != want {
		t.Errorf("there are %d kinds of the bytes %q, want %d", kinds, kindBytes, want)
	}
}

func TestKindAnyByte(t *testing.T) {
	for b := range 256 {
		x := string([]byte{byte(b)})
		for _, s := range []string{
			x, "[" + x, "?[" + x, x + "n", x + "@ab;", "[" + x + "n",
			"@" + x + ";", "@" + x + "b;", "@a" + x + ";", "@" + x + "bc;", "@a" + x + "c;", "@ab" + x + ";", "@abc" + x, "@abc" + x + ";",
			"n" + x, "t" + x, "f" + x, "[n" + x, "@a;" + x, "?@abc;" + x, "[[[[[[[[[[[" + x, "[[[[[[[[@a" + x + ";",
		} {
			checkLikeSlow(t, s)
		}
	}
}

func TestKindAllNames(t *testing.T) {
	eachText("", "abcdefghijklmnopqrstuvwxyz", 3, func(name string) {
		if name == "" {
			return
		}
		checkKind(t, kindCase{"@" + name + ";", 0, name})
		checkKind(t, kindCase{"?[@" + name + ";", 2, name})
	})
}

func TestKindNameTooLong(t *testing.T) {
	for size := impl.NameTop + 1; size <= 40; size++ {
		name := strings.Repeat("k", size)
		for _, head := range []string{"", "[", "?", "[?", "[[["} {
			checkNoKind(t, head+"@"+name+";")
		}
	}
}

func TestKindTooLong(t *testing.T) {
	for _, last := range []string{"n", "t", "f", "@a;", "@ab;", "@abc;"} {
		for _, sign := range []string{"[", "?"} {
			for size := len(last); size <= 3*impl.KindTop; size++ {
				s := strings.Repeat(sign, size-len(last)) + last
				if isKind := checkLikeSlow(t, s); isKind != (size <= impl.KindTop) {
					t.Errorf("%q of %d bytes is a kind: %v", s, size, isKind)
				}
			}
		}
	}
}

func TestKindVeryLong(t *testing.T) {
	for _, s := range []string{
		strings.Repeat("[", 1<<20), strings.Repeat("?", 1<<20) + "n", "@" + strings.Repeat("a", 1<<20) + ";", strings.Repeat("n", 1<<20), "@a;" + strings.Repeat(" ", 1<<20),
	} {
		if impl.KindOk(s) || impl.KindDeep(s) != -1 {
			t.Errorf("a text of %d bytes that begins with %q is a kind", len(s), s[:10])
		}
	}
}

func TestKindRefsNewMemory(t *testing.T) {
	first, _ := impl.KindRefs("[@ab;")
	first = append(first, "xy")
	first[0] = "zz"
	if refs, ok := impl.KindRefs("[@ab;"); !slices.Equal(refs, []string{"ab"}) || !ok {
		t.Errorf("KindRefs, asked again, = %q, %v, want [ab]", refs, ok)
	}
}

func TestPromise6KindOkAndKindDeep(t *testing.T) {
	for _, s := range someTexts() {
		if impl.KindOk(s) != (impl.KindDeep(s) != -1) {
			t.Errorf("KindOk(%q) = %v, KindDeep = %d", s, impl.KindOk(s), impl.KindDeep(s))
		}
	}
}

func TestPromise7KindDeepOfKindPart(t *testing.T) {
	parts := 0
	for _, s := range someTexts() {
		part, ok := impl.KindPart(s)
		if !ok {
			continue
		}
		parts++
		if impl.KindDeep(part) != impl.KindDeep(s)-1 {
			t.Errorf("KindDeep(%q) = %d, of its part %q = %d", s, impl.KindDeep(s), part, impl.KindDeep(part))
		}
	}
	if parts == 0 {
		t.Errorf("no text has a part")
	}
}

func TestPromise8KindName(t *testing.T) {
	names := 0
	for _, s := range someTexts() {
		name, ok := impl.KindName(s)
		if ok {
			names++
		}
		if ok && "@"+name+";" != s {
			t.Errorf("KindName(%q) = %q", s, name)
		}
		if want := impl.KindOk(s) && s[0] == '@'; ok != want {
			t.Errorf("KindName(%q) = %q, %v, want %v", s, name, ok, want)
		}
	}
	if names == 0 {
		t.Errorf("no text has a name")
	}
}

func TestPromise9KindRefsOfKindPart(t *testing.T) {
	named := 0
	for _, s := range someTexts() {
		part, ok := impl.KindPart(s)
		if !ok {
			continue
		}
		refs, told := impl.KindRefs(s)
		partRefs, partTold := impl.KindRefs(part)
		named += len(refs)
		if !slices.Equal(refs, partRefs) || !told || !partTold {
			t.Errorf("KindRefs(%q) = %q, %v, of its part %q, %v", s, refs, told, partRefs, partTold)
		}
	}
	if named == 0 {
		t.Errorf("no kind with a part has a name")
	}
}

func TestPromise10KindPartTaken(t *testing.T) {
	for _, s := range someTexts() {
		deep := impl.KindDeep(s)
		if deep == -1 {
			deep = 0
		}
		part, taken := s, 0
		for next, ok := impl.KindPart(part); ok; next, ok = impl.KindPart(part) {
			part = next
			taken++
		}
		if taken != deep || part != s[taken:] {
			t.Errorf("KindPart of %q can be taken %d times, down to %q, and KindDeep is %d", s, taken, part, impl.KindDeep(s))
		}
	}
}
