package tests

import (
	"maps"
	"math/rand"
	"regexp"
	"slices"
	"strconv"
	"strings"
	"testing"

	"loop.example/wireforms/impl"
)

// The schemas of the tests: plain ends each type soon, full has all kinds and told standing values, deep leads back to itself.
const (
	plainSchema = "Ra=1:p:n=5,2:q:[t,4:r:?@a;\nUb=1:x:n,3:y:@a;\nEc=1:on,2:off\n"
	fullSchema  = "Rr=1:a:n,2:b:n=7,3:c:t,4:d:t='ab',5:e:f,6:g:f=yes,10:h:@u;,200:i:@e;\nUu=5:x:@v;,6:y:[n,7:z:@u;\nUv=9:x:@e;,10:y:??n,11:z:@r;\nEe=3:x,20:y\nRs=1:l:[n,2:m:?n,3:r:@s;,9:o:[?@e;,99:u:@v;\nRo=\n"
	deepSchema  = "Rn=1:x:@n;,2:y:?@n;,3:z:[@n;,4:w:@d;,5:v:t,6:u:[[[[[[[[[[[n\nUd=1:x:t,2:y:@d;,3:z:@n;\n"
)

// valueCase is a value with its size and its depth, written out.
type valueCase struct {
	schema, kind, text string
	size, deep         int
}

var valueCases = []valueCase{
	{"", "n", "0", 1, 1},
	{"", "n", "1", 1, 1},
	{"", "n", "10", 1, 1},
	{"", "n", "999999", 1, 1},
	{"", "t", "''", 1, 1},
	{"", "t", "' '", 1, 1},
	{"", "t", "'az09 yes'", 1, 1},
	{"", "t", "'abcdefghijkl'", 1, 1},
	{"", "f", "yes", 1, 1},
	{"", "f", "no", 1, 1},
	{"", "[n", "[]", 0, 1},
	{"", "[n", "[0]", 1, 2},
	{"", "[n", "[0,0,12,0]", 4, 2},
	{"", "[t", "['','a','']", 3, 2},
	{"", "[f", "[yes,no,no]", 3, 2},
	{"", "[[f", "[[],[no],[],[yes,no]]", 3, 3},
	{"", "[?n", "[-,+0,-]", 3, 3},
	{"", "?n", "-", 1, 1},
	{"", "?n", "+0", 1, 2},
	{"", "?t", "+''", 1, 2},
	{"", "?f", "+no", 1, 2},
	{"", "??n", "-", 1, 1},
	{"", "??n", "+-", 1, 2},
	{"", "??n", "++5", 1, 3},
	{"", "???f", "++-", 1, 3},
	{"", "?[n", "+[]", 0, 2},
	{"", "?[?n", "+[-,+1]", 2, 4},
	{"", "???????????f", "+++++++++++yes", 1, 12},
	{"", "???????????f", "++++++++++-", 1, 11},
	{"", "[[[[[[[[[[[n", "[[[[[[[[[[[5]]]]]]]]]]]", 1, 12},
	{"", "[[[[[[[[[[[n", "[[[[[[[[[[[]]]]]]]]]]]", 0, 11},
	{plainSchema, "n", "7", 1, 1},
	{plainSchema, "@a;", "{}", 0, 1},
	{plainSchema, "@a;", "{1=7}", 1, 2},
	{plainSchema, "@a;", "{1=0}", 1, 2},
	{plainSchema, "@a;", "{1=7,2=['hi','']}", 3, 3},
	{plainSchema, "@a;", "{2=['']}", 1, 3},
	{plainSchema, "@a;", "{4=+{}}", 0, 3},
	{plainSchema, "@a;", "{1=4,4=+{4=+{1=50}}}", 2, 6},
	{plainSchema, "?@a;", "+{}", 0, 2},
	{plainSchema, "[@a;", "[{},{1=1},{}]", 1, 3},
	{plainSchema, "@b;", "<1=0>", 1, 2},
	{plainSchema, "@b;", "<1=5>", 1, 2},
	{plainSchema, "@b;", "<3={}>", 0, 2},
	{plainSchema, "@b;", "<3={1=0,2=['a']}>", 2, 4},
	{plainSchema, "@c;", "#1", 1, 1},
	{plainSchema, "@c;", "#2", 1, 1},
	{plainSchema, "[@c;", "[#2,#2,#1]", 3, 2},
	{plainSchema, "??@c;", "++#2", 1, 3},
	{fullSchema, "@r;", "{1=1,2=0,3='a',4='',5=yes,6=no,10=<7=<5=<9=#3>>>,200=#20}", 8, 5},
	{fullSchema, "@r;", "{2=8,4='a',10=<5=<9=#20>>}", 3, 4},
	{fullSchema, "@r;", "{10=<5=<11={}>>}", 0, 4},
	{fullSchema, "@r;", "{10=<6=[]>,200=#20}", 1, 3},
	{fullSchema, "@u;", "<5=<9=#3>>", 1, 3},
	{fullSchema, "@v;", "<10=->", 1, 2},
	{fullSchema, "@v;", "<10=+->", 1, 3},
	{fullSchema, "@v;", "<10=++0>", 1, 4},
	{fullSchema, "@e;", "#20", 1, 1},
	{fullSchema, "@s;", "{1=[0],2=+0,3={3={9=[-]}},9=[-,+#3,-],99=<10=->}", 7, 5},
	{fullSchema, "@o;", "{}", 0, 1},
	{deepSchema, "@n;", "{1={1={1={1={1={1={1={1={1={1={5='a'}}}}}}}}}}}", 1, 12},
	{deepSchema, "@n;", "{2=+{2=+{2=+{2=+{2=+{5='a'}}}}}}", 1, 12},
	{deepSchema, "@n;", "{3=[{3=[{3=[{3=[{3=[{}]}]}]}]}]}", 0, 11},
	{deepSchema, "@n;", "{6=[[[[[[[[[[[]]]]]]]]]]]}", 0, 12},
	{deepSchema, "@d;", "<2=<2=<2=<2=<2=<2=<2=<2=<2=<2=<1=''>>>>>>>>>>>", 1, 12},
}

// notValues are texts that are no values of a kind, and texts with kinds that the schema has not.
var notValues = []struct {
	schema, kind string
	texts        []string
}{
	{"", "n", []string{"", "00", "01", "0000000", "0999999", "-0", "-1", "+1", "1000000", "9999999", "18446744073709551616", "18446744073709551617", "4294967296", "340282366920938463463374607431768211456", "1.0", "1e1", "0x1", "1_0", " 1", "1 ", "1\n", "1,", "1,2", "a", "yes", "''", "'1'", "[]", "[1]", "-", "{}", "#1", "<1=0>", "\x00", "1\x00", "\xff", "٣"}},
	{"", "t", []string{"", "'", "'''", "''''", "a", "'a", "a'", "'a'b'", "'a''", "''a'", "'a'a", "a'a'", " 'a'", "'a' ", "'A'", "'aB'", "'_'", "'a-b'", "'a,b'", "'='", "'\"'", "\"a\"", "`a`", "'\t'", "'\n'", "'\x00'", "'\xff'", "'é'", "'abcdefghijklm'", "'             '", "0", "yes", "no", "-", "[]", "{}", "'a','b'"}},
	{"", "f", []string{"", "y", "n", "ye", "yess", "noo", "Yes", "NO", "YES", " yes", "yes ", "no\n", "yesno", "noyes", "true", "false", "0", "1", "'yes'", "''", "-", "+yes", "[]", "{}"}},
	{"", "[n", []string{"", "[", "]", "[[", "[]]", "[[]", "[[]]", "][", "[1", "1]", "1", "[,]", "[1,]", "[,1]", "[1,,2]", "[1;2]", "[1 2]", "[1, 2]", "[ 1]", "[1 ]", "[ ]", " []", "[] ", "[01]", "[00]", "[1000000]", "[1]1", "[1]]", "[1][2]", "[1],", "[-]", "[+1]", "[a]", "['']", "[yes]", "[1,yes]", "(1)", "{}", "{1}", "<1>", "-", "+[]", "0"}},
	{"", "[f", []string{"[yesno]", "[yes,]", "[n]", "[noo]", "[yes no]"}},
	{"", "[t", []string{"[''']", "['a'b]", "['a''b']", "['a,b']", "[']']", "['','", "['abcdefghijklm']"}},
	{"", "[[n", []string{"[1]", "[[1]", "[1]]", "[[1],2]", "[[1],[2]", "[[[]]]", "[[1][2]]", "[[1],]", "[]]"}},
	{"", "?n", []string{"", "+", "0", "5", "--", "-0", "-5", "+-", "++0", "++", "+00", "+01", "+1000000", "+ 5", "+5 ", " -", "- ", "+yes", "+''", "+[]", "?", "null", "+5,", "[]", "{}"}},
	{"", "??n", []string{"", "+", "++", "+0", "+5", "0", "--", "-+", "-+5", "+--", "++-", "+++", "+++5", "++05", "+-5", "-5"}},
	{"", "?[n", []string{"", "+", "[]", "+-", "+[-]", "+[+1]", "-[]", "+[", "+]", "++[]"}},
	{"", "[?n", []string{"", "-", "+[]", "[0]", "[+]", "[--]", "[-+0]", "[+0+0]", "[-,]", "[+-]"}},
	{"", "???????????f", []string{"++++++++++++yes", "++++++++++yes", "++++++++++++-", "+++++++++++-"}},
	{plainSchema, "@a;", []string{
		"", "{", "}", "{{}}", "{}}", "{{}", "{},", "{} ", " {}", "{ }", "{,}", "[]", "<>", "-", "0", "{}{}", "{1=7}}", "{1=7", "1=7}", "1=7", "{1=7}{}", "{1=7}7",
		"{1=5}", "{2=[]}", "{4=-}", "{1=5,2=['a']}", "{1=7,2=[]}", "{1=7,4=-}", "{2=[''],4=-}", "{4=+{1=5}}", "{4=+{4=-}}", "{1=05}", "{1=00}",
		"{2=['a'],1=7}", "{4=+{},1=7}", "{4=+{},2=['']}", "{1=7,1=7}", "{1=7,1=8}", "{2=[''],2=['']}", "{1=7,2=[''],1=7}", "{1=7,4=+{},2=['']}",
		"{3=7}", "{5=7}", "{0=7}", "{1=7,3=7}", "{1=7,5=7}", "{200=7}", "{201=7}", "{257=7}", "{65537=7}", "{18446744073709551617=7}", "{-1=7}", "{+1=7}", "{01=7}", "{001=7}", "{ 1=7}", "{1 =7}", "{1= 7}", "{1=7 }", "{=7}", "{p=7}", "{p:7}", "{1:7}", "{1}", "{1=}", "{1==7}", "{17}", "{7}", "{1=7=7}",
		"{1=7,}", "{,1=7}", "{1=7,,2=['']}", "{1=7;2=['']}", "{1=7, 2=['']}", "{1=7 2=['']}", "{1=72=['']}", "{1='7'}", "{1=yes}", "{1=-}", "{1=1000000}", "{2=['A']}", "{2=''}", "{2=[1]}", "{4={}}", "{4=+}", "{4=+-}", "{4=++{}}", "{4=+{3=1}}", "{4=+[]}", "[1=7]", "<1=7>", "(1=7)", "#1",
	}},
	{plainSchema, "@b;", []string{
		"", "<", ">", "<>", "<<1=0>>", "<1=0", "1=0>", "<1=0>>", "<1=0> ", " <1=0>", "<1=0,>", "<,1=0>", "<1=0,3={}>", "<1=0,1=0>", "<2=0>", "<0=0>", "<4=0>", "<201=0>", "<257=0>", "<18446744073709551617=0>", "<01=0>", "<-1=0>", "<+1=0>", "<=0>", "<1>", "<1=>", "<1:0>", "<1==0>", "< 1=0>", "<1= 0>", "<1=0 >", "<x=0>",
		"<1=00>", "<1=1000000>", "<1='a'>", "<1={}>", "<1=->", "<3=0>", "<3=>", "<3={}}>", "<3={1=5}>", "<3={3=1}>", "<3=-", "{1=0}", "{}", "[1=0]", "0", "#1", "-",
	}},
	{plainSchema, "@c;", []string{"", "#", "1", "##1", "#0", "#3", "#4", "#01", "#02", "#001", "#-1", "#+1", "# 1", "#1 ", " #1", "#1#", "#1,", "#12", "#201", "#257", "#258", "#18446744073709551617", "#on", "on", "#1=", "<1>", "{}", "'on'", "[#1]", "+#1", "-"}},
	{plainSchema, "?@a;", []string{"", "{}", "+", "+{", "+{1=5}", "++{}", "-{}", "+-"}},
	{plainSchema, "[@b;", []string{"[<>]", "[<1=0]>", "[<1=0>,]", "[<1=0>", "<1=0>", "[<2=0>]", "[{}]"}},
	{plainSchema, "[@c;", []string{"[#3]", "[#1#2]", "[#1,#0]", "#1"}},
	{fullSchema, "@r;", []string{"{1=0}", "{2=7}", "{3=''}", "{4='ab'}", "{5=no}", "{6=yes}", "{10=<5=<9=#3>>}", "{200=#3}", "{200=#200}", "{20=#20}", "{200=#4}", "{10=<5=<9=#4>>}", "{10=<5=#3>}", "{10=<9=#3>}", "{10=<5=<11={1=0}>>}", "{10=<5=<11={2=7}>>}", "{10=<6=[]>,2=8}", "{2=8,10=<6=[]>,3='a'}", "{200=#20,10=<6=[]>}", "{100=#20}", "{1=1,2=0,3='a',4='',5=yes,6=no,10=<7=<5=<9=#3>>>,200=#20,201=0}"}},
	{fullSchema, "@s;", []string{"{1=[]}", "{2=-}", "{3={}}", "{9=[]}", "{99=<9=#3>}", "{3={3={}}}", "{3={2=-}}", "{9=[+-]}"}},
	{fullSchema, "@o;", []string{"", "{1=0}", "{0=0}", "{=}", "{1}"}},
	{deepSchema, "@n;", []string{"{1={1={1={1={1={1={1={1={1={1={1={5='a'}}}}}}}}}}}}", "{2=+{2=+{2=+{2=+{2=+{1={5='a'}}}}}}}", "{3=[{3=[{3=[{3=[{3=[{5='a'}],4=<1='a'>}]}]}]}],6=[[[[[[[[[[[7]]]]]]]]]]]}", "{6=[[[[[[[[[[[7]]]]]]]]]]]}", "{1={6=[[[[[[[[[[[]]]]]]]]]]]}}"}},
	{deepSchema, "@d;", []string{"<2=<2=<2=<2=<2=<2=<2=<2=<2=<2=<2=<1=''>>>>>>>>>>>>"}},
	{deepSchema, "[@d;", []string{"[<2=<2=<2=<2=<2=<2=<2=<2=<2=<2=<1=''>>>>>>>>>>>]"}},
}

// plainValues are all values of the kinds that have no parts.
var plainValues = map[string]*regexp.Regexp{
	"n": regexp.MustCompile(`\A(0|[1-9][0-9]{0,5})\z`),
	"t": regexp.MustCompile(`\A'[a-z0-9 ]{0,12}'\z`),
	"f": regexp.MustCompile(`\A(yes|no)\z`),
}

var (
	enumLook = regexp.MustCompile(`\A#([1-9][0-9]{0,2})\z`)
	toldLook = regexp.MustCompile(`(?s)\A([1-9][0-9]{0,2})=(.*)\z`)
)

// slowTold is what the definition tells of a value; fields are those that a record tells.
type slowTold struct {
	size, deep int
	fields     map[int]string
}

// slowValue tells by the definition, without the program, whether a text is a value of a kind, and what is told of it.
func slowValue(c schemaCase, kind string, s string) (slowTold, bool) {
	k, ok := slowKind(kind)
	if _, found := typeOf(c, k.name); !ok || k.name != "" && !found || len(s) > 400 {
		return slowTold{}, false
	}
	told, ok := slowPiece(c, kind, s)
	return told, ok && told.deep <= 12
}

// typeOf is the type of a name of a schema.
func typeOf(c schemaCase, name string) (schemaType, bool) {
	for _, def := range c.types {
		if def.name == name {
			return def, true
		}
	}
	return schemaType{}, false
}

// fieldOf is the field of a tag of a type.
func fieldOf(def schemaType, tag int) (schemaField, bool) {
	for _, f := range def.fields {
		if f.tag == tag {
			return f, true
		}
	}
	return schemaField{}, false
}

// slowPiece is slowValue without the limits of a whole value.
func slowPiece(c schemaCase, kind string, s string) (slowTold, bool) {
	if look := plainValues[kind]; look != nil {
		return slowTold{size: 1, deep: 1}, look.MatchString(s)
	}
	switch kind[0] {
	case '[':
		pieces, ok := slowPieces(s, "[", "]")
		told := slowTold{deep: 1}
		for _, piece := range pieces {
			ok = told.add(slowPiece(c, kind[1:], piece)) && ok
		}
		return told, ok && len(pieces) <= 20
	case '?':
		if s == "-" {
			return slowTold{size: 1, deep: 1}, true
		}
		told := slowTold{deep: 1}
		ok := strings.HasPrefix(s, "+") && told.add(slowPiece(c, kind[1:], s[1:]))
		return told, ok
	}
	def, _ := typeOf(c, kind[1:len(kind)-1])
	switch def.sort {
	case "R":
		return slowFields(c, def, s, "{", "}")
	case "U":
		told, ok := slowFields(c, def, s, "<", ">")
		return told, ok && len(told.fields) == 1
	}
	m := enumLook.FindStringSubmatch(s)
	if m == nil {
		return slowTold{}, false
	}
	tag, _ := strconv.Atoi(m[1])
	_, found := fieldOf(def, tag)
	return slowTold{size: 1, deep: 1}, found
}

// add counts what is told of a part in, and reports whether that is a value.
func (told *slowTold) add(part slowTold, ok bool) bool {
	told.size += part.size
	told.deep = max(told.deep, part.deep+1)
	return ok
}

// slowPieces parts a text between two signs at each , that is in no others.
func slowPieces(s string, first string, last string) ([]string, bool) {
	if len(s) < 2 || !strings.HasPrefix(s, first) || !strings.HasSuffix(s, last) {
		return nil, false
	}
	s = s[1 : len(s)-1]
	if s == "" {
		return nil, true
	}
	pieces := []string{""}
	open := 0
	for i := range len(s) {
		if strings.IndexByte("[{<", s[i]) >= 0 {
			open++
		}
		if strings.IndexByte("]}>", s[i]) >= 0 {
			open--
		}
		if s[i] == ',' && open == 0 {
			pieces = append(pieces, "")
		} else {
			pieces[len(pieces)-1] += s[i : i+1]
		}
	}
	return pieces, true
}

// slowFields tells whether a text is fields of a type between two signs.
func slowFields(c schemaCase, def schemaType, s string, first string, last string) (slowTold, bool) {
	pieces, ok := slowPieces(s, first, last)
	told := slowTold{deep: 1, fields: map[int]string{}}
	tags := []int{0}
	for _, piece := range pieces {
		m := toldLook.FindStringSubmatch(piece)
		if m == nil {
			return slowTold{}, false
		}
		tag, _ := strconv.Atoi(m[1])
		f, found := fieldOf(def, tag)
		if !found || !told.add(slowPiece(c, f.kind, m[2])) || def.sort == "R" && m[2] == f.stand {
			return slowTold{}, false
		}
		told.fields[tag] = m[2]
		tags = append(tags, tag)
	}
	return told, ok && slices.IsSorted(tags) && len(told.fields) == len(pieces)
}

// slowRecord is the text of the fields that a record tells.
func slowRecord(fields map[int]string) string {
	var told []string
	for _, tag := range slices.Sorted(maps.Keys(fields)) {
		told = append(told, strconv.Itoa(tag)+"="+fields[tag])
	}
	return "{" + strings.Join(told, ",") + "}"
}

// recordOf is the type of a kind, if it is a record.
func recordOf(c schemaCase, kind string) (schemaType, bool) {
	k, _ := slowKind(kind)
	def, found := typeOf(c, k.name)
	return def, found && k.deep == 0 && def.sort == "R"
}

// slowValueField tells by the definition what ValueField is.
func slowValueField(c schemaCase, kind string, s string, tag int) (string, bool) {
	told, ok := slowValue(c, kind, s)
	def, isRecord := recordOf(c, kind)
	f, found := fieldOf(def, tag)
	if !ok || !isRecord || !found {
		return "", false
	}
	if text, is := told.fields[tag]; is {
		return text, true
	}
	return f.stand, true
}

// slowValueSet tells by the definition what ValueSet is.
func slowValueSet(c schemaCase, kind string, s string, tag int, value string) (string, bool) {
	if _, ok := slowValueField(c, kind, s, tag); !ok {
		return "", false
	}
	told, _ := slowValue(c, kind, s)
	def, _ := recordOf(c, kind)
	f, _ := fieldOf(def, tag)
	if _, ok := slowValue(c, f.kind, value); !ok {
		return "", false
	}
	told.fields[tag] = value
	if value == f.stand {
		delete(told.fields, tag)
	}
	text := slowRecord(told.fields)
	if _, ok := slowValue(c, kind, text); !ok {
		return "", false
	}
	return text, true
}

// schemaRead is the types of a text that must be a schema.
func schemaRead(t *testing.T, s string) schemaCase {
	t.Helper()
	types, ok := slowSchema(s)
	if !ok {
		t.Fatalf("%q is no schema", s)
	}
	return schemaCase{s, types}
}

// checkValue holds what the program tells of a value against its size and its depth.
func checkValue(t *testing.T, schema string, kind string, s string, size int, deep int) {
	t.Helper()
	if !impl.ValueOk(schema, kind, s) {
		t.Errorf("ValueOk(%q, %q, %q) = false", schema, kind, s)
	}
	if got := impl.ValueSize(schema, kind, s); got != size {
		t.Errorf("ValueSize(%q, %q, %q) = %d, want %d", schema, kind, s, got, size)
	}
	if got := impl.ValueDeep(schema, kind, s); got != deep {
		t.Errorf("ValueDeep(%q, %q, %q) = %d, want %d", schema, kind, s, got, deep)
	}
}

// checkNoValue checks that the program tells nothing of a text that is no value.
func checkNoValue(t *testing.T, schema string, kind string, s string) {
	t.Helper()
	if impl.ValueOk(schema, kind, s) {
		t.Errorf("ValueOk(%q, %q, %q) = true", schema, kind, s)
	}
	if size := impl.ValueSize(schema, kind, s); size != -1 {
		t.Errorf("ValueSize(%q, %q, %q) = %d, want -1", schema, kind, s, size)
	}
	if deep := impl.ValueDeep(schema, kind, s); deep != -1 {
		t.Errorf("ValueDeep(%q, %q, %q) = %d, want -1", schema, kind, s, deep)
	}
	for _, tag := range []int{0, 1, 2} {
		checkField(t, schema, kind, s, tag, "", false)
		for _, value := range []string{"0", "8", "''", "[]"} {
			checkSet(t, schema, kind, s, tag, value, "", false)
		}
	}
}

func checkField(t *testing.T, schema string, kind string, s string, tag int, want string, wantOk bool) {
	t.Helper()
	if got, ok := impl.ValueField(schema, kind, s, tag); got != want || ok != wantOk {
		t.Errorf("ValueField(%q, %q, %q, %d) = %q, %v, want %q, %v", schema, kind, s, tag, got, ok, want, wantOk)
	}
}

func checkSet(t *testing.T, schema string, kind string, s string, tag int, value string, want string, wantOk bool) {
	t.Helper()
	if got, ok := impl.ValueSet(schema, kind, s, tag, value); got != want || ok != wantOk {
		t.Errorf("ValueSet(%q, %q, %q, %d, %q) = %q, %v, want %q, %v", schema, kind, s, tag, value, got, ok, want, wantOk)
	}
}

// checkLikeSlowValue holds a text against the definition, but for ValueSet, and reports whether it is a value.
func checkLikeSlowValue(t *testing.T, c schemaCase, kind string, s string) bool {
	t.Helper()
	told, ok := slowValue(c, kind, s)
	if !ok {
		checkNoValue(t, c.text, kind, s)
		return false
	}
	checkValue(t, c.text, kind, s, told.size, told.deep)
	if def, isRecord := recordOf(c, kind); isRecord {
		for _, f := range def.fields {
			want, wantOk := slowValueField(c, kind, s, f.tag)
			checkField(t, c.text, kind, s, f.tag, want, wantOk)
		}
	}
	return true
}

// someParts are values of many kinds, and texts that are values of none.
var someParts = []string{
	"0", "1", "5", "7", "999999", "1000000", "05", "''", "'a'", "'ab'", "'abcdefghijkl'", "'abcdefghijklm'", "'A'", "yes", "no", "-", "+-", "+0", "++0", "+{}", "+#3", "[]", "[0]", "['']", "['hi',' ']", "[-]", "[{}]", "[+#3,-]", "{}", "{1=7}", "{1=5}", "{1={}}", "{2=+{}}", "{5='a'}",
	"<1=0>", "<1=''>", "<2=<1='a'>>", "<9=#3>", "<9=#20>", "<10=->", "<5=<9=#3>>", "<5=<9=#20>>", "<6=[]>", "<7=<6=[1]>>", "#1", "#3", "#20", "", " ", "{", "}", "0 ", "0,", "0}",
}

// checkLikeSlowSet holds ValueSet of a text, and ValueField behind it, against the definition, for all fields and some texts; it returns how often it is true.
func checkLikeSlowSet(t *testing.T, c schemaCase, kind string, s string, parts []string) int {
	t.Helper()
	sets := 0
	k, _ := slowKind(kind)
	def, _ := typeOf(c, k.name)
	tags := []int{-1, 0, 201, 1 << 32}
	for _, f := range def.fields {
		tags = append(tags, f.tag, f.tag+1)
		parts = append(parts, f.stand)
	}
	for _, tag := range tags {
		field, ok := slowValueField(c, kind, s, tag)
		checkField(t, c.text, kind, s, tag, field, ok)
		for _, value := range append(parts, field) {
			want, ok := slowValueSet(c, kind, s, tag, value)
			checkSet(t, c.text, kind, s, tag, value, want, ok)
			if ok {
				sets++
			}
		}
	}
	return sets
}

// valueMaker makes schemas and values, always the same ones.
type valueMaker struct {
	r *rand.Rand
}

// schemas are n schemas that are valid.
func (m valueMaker) schemas(t *testing.T, n int) []schemaCase {
	t.Helper()
	var cases []schemaCase
	for _, s := range madeSchemas(n) {
		if types, ok := slowSchema(s); ok {
			cases = append(cases, schemaCase{s, types})
		}
	}
	if len(cases) < n/10 {
		t.Fatalf("only %d of %d made texts are schemas", len(cases), n)
	}
	return cases
}

// kind is a kind of a schema.
func (m valueMaker) kind(c schemaCase) string {
	last := []string{"n", "t", "f"}[m.r.Intn(3)]
	if m.r.Intn(4) > 0 {
		last = m.typeKind(c)
	}
	return []string{"", "", "", "[", "?", "[?", "??", "[["}[m.r.Intn(8)] + last
}

// typeKind is the kind of a type of a schema that has types.
func (m valueMaker) typeKind(c schemaCase) string {
	return "@" + c.types[m.r.Intn(len(c.types))].name + ";"
}

// value is a text that most often is a value of a kind; with less left it has fewer parts.
func (m valueMaker) value(c schemaCase, kind string, left int) string {
	switch kind[0] {
	case 'n':
		return strconv.Itoa([]int{0, 7, 10, 999999, m.r.Intn(1000000)}[m.r.Intn(5)])
	case 't':
		return "'" + []string{"", "a b", " ", "0", "abcdefghijkl"}[m.r.Intn(5)] + "'"
	case 'f':
		return []string{"yes", "no"}[m.r.Intn(2)]
	case '[':
		var items []string
		for range m.r.Intn(4) {
			if left > 0 {
				items = append(items, m.value(c, kind[1:], left-1))
			}
		}
		return "[" + strings.Join(items, ",") + "]"
	case '?':
		if left <= 0 || m.r.Intn(3) == 0 {
			return "-"
		}
		return "+" + m.value(c, kind[1:], left-1)
	}
	def, _ := typeOf(c, kind[1:len(kind)-1])
	return m.valueOfType(c, def, left)
}

// valueOfType is a text that most often is a value of a type.
func (m valueMaker) valueOfType(c schemaCase, def schemaType, left int) string {
	switch def.sort {
	case "E":
		return "#" + strconv.Itoa(def.fields[m.r.Intn(len(def.fields))].tag)
	case "U":
		f := def.fields[m.r.Intn(len(def.fields))]
		if left <= 0 {
			f = def.fields[0]
		}
		return "<" + strconv.Itoa(f.tag) + "=" + m.value(c, f.kind, left-1) + ">"
	}
	fields := map[int]string{}
	for _, f := range def.fields {
		if left <= 0 || m.r.Intn(3) == 0 {
			continue
		}
		// Once in a while the standing value is told.
		if part := m.value(c, f.kind, left-1); part != f.stand || m.r.Intn(20) == 0 {
			fields[f.tag] = part
		}
	}
	return slowRecord(fields)
}

// madeValue is a schema, a kind and a text that is a value of it.
type madeValue struct {
	c          schemaCase
	kind, text string
	told       slowTold
}

// someValues are values, written-out ones and made ones, of all kinds.
func someValues(t *testing.T, n int) []madeValue {
	t.Helper()
	return valuesOf(t, n, valueMaker.kind, func(schemaCase, string) bool { return true })
}

// someRecords are values, written-out ones and made ones, of records that have fields.
func someRecords(t *testing.T, n int) []madeValue {
	t.Helper()
	return valuesOf(t, n, valueMaker.typeKind, func(c schemaCase, kind string) bool {
		def, isRecord := recordOf(c, kind)
		return isRecord && len(def.fields) > 0
	})
}

// valuesOf are written-out values, and some of n texts that are made, of such kinds as are wanted.
func valuesOf(t *testing.T, n int, kindOf func(valueMaker, schemaCase) string, wanted func(schemaCase, string) bool) []madeValue {
	t.Helper()
	m := valueMaker{rand.New(rand.NewSource(4))}
	cases := m.schemas(t, 1000)
	plain := []schemaCase{schemaRead(t, plainSchema), schemaRead(t, fullSchema), schemaRead(t, deepSchema)}
	var values []madeValue
	add := func(c schemaCase, kind string, text string) {
		if told, ok := slowValue(c, kind, text); ok && wanted(c, kind) {
			values = append(values, madeValue{c, kind, text, told})
		}
	}
	for _, v := range valueCases {
		add(schemaRead(t, v.schema), v.kind, v.text)
	}
	for range n {
		c := cases[m.r.Intn(len(cases))]
		if m.r.Intn(3) == 0 {
			c = plain[m.r.Intn(len(plain))]
		}
		kind := kindOf(m, c)
		add(c, kind, m.value(c, kind, 1+m.r.Intn(6)))
	}
	if len(values) < n/4 {
		t.Fatalf("only %d of %d made texts are values", len(values), n)
	}
	return values
}

func TestValueLimits(t *testing.T) {
	if impl.ValueTop != 400 || impl.DeepTop != 12 || impl.ItemTop != 20 {
		t.Errorf("ValueTop = %d, DeepTop = %d, ItemTop = %d", impl.ValueTop, impl.DeepTop, impl.ItemTop)
	}
}

func TestValueCases(t *testing.T) {
	for _, v := range valueCases {
		checkValue(t, v.schema, v.kind, v.text, v.size, v.deep)
		if !checkLikeSlowValue(t, schemaRead(t, v.schema), v.kind, v.text) {
			t.Errorf("the slow reading does not take %q as a value of %q of %q", v.text, v.kind, v.schema)
		}
	}
}

func TestValueInvalid(t *testing.T) {
	for _, c := range notValues {
		for _, s := range c.texts {
			checkNoValue(t, c.schema, c.kind, s)
			if checkLikeSlowValue(t, schemaRead(t, c.schema), c.kind, s) {
				t.Errorf("the slow reading takes %q as a value of %q of %q", s, c.kind, c.schema)
			}
		}
	}
}

func TestValueOfNoSchema(t *testing.T) {
	for _, schema := range notSchemas {
		for _, kind := range []string{"n", "t", "f", "[n", "?n", "@a;", "@b;", "?@a;"} {
			for _, s := range []string{"0", "''", "no", "[]", "-", "{}", "#1", "<1=0>", "{1=8}"} {
				checkNoValue(t, schema, kind, s)
			}
		}
	}
	for _, v := range valueCases {
		checkNoValue(t, v.schema+"\n", v.kind, v.text)
		checkNoValue(t, v.schema+"x", v.kind, v.text)
		checkNoValue(t, v.schema+"Rzz=1:a:@yy;\n", v.kind, v.text)
		checkNoValue(t, strings.Repeat("Rzz=\n", 100), v.kind, v.text)
	}
}

func TestValueOfNoKind(t *testing.T) {
	kinds := []string{"", " ", "N", "x", "a", "[", "?", "@", "@;", "@a", "a;", "nn", "n ", "n;", "[ n", "@A;", "@abcd;", "@a;n", "@x;", "[@x;", "?@x;", "??@xyz;", "@ab;", "[[[[[[[[[[[[n", "????????????f", strings.Repeat("[", 1<<16) + "n"}
	parts := append([]string{"[[[[[[[[[[[[0]]]]]]]]]]]]", "[[[[[[[[[[[]]]]]]]]]]]", "++++++++++++yes"}, someParts...)
	for _, kind := range kinds {
		for _, s := range parts {
			checkNoValue(t, plainSchema, kind, s)
		}
		for _, tag := range []int{1, 2, 4} {
			checkField(t, plainSchema, kind, "{}", tag, "", false)
			checkSet(t, plainSchema, kind, "{}", tag, "8", "", false)
		}
	}
	for _, s := range notKinds {
		checkNoValue(t, plainSchema, s, "{}")
		checkNoValue(t, plainSchema, s, "0")
	}
}

// TestValueOfOtherKinds holds each of some texts against the definition for each of some kinds.
func TestValueOfOtherKinds(t *testing.T) {
	for _, schema := range []string{"", plainSchema, fullSchema, deepSchema} {
		c := schemaRead(t, schema)
		kinds := []string{"n", "t", "f"}
		for _, def := range c.types {
			kinds = append(kinds, "@"+def.name+";")
		}
		for _, kind := range kinds {
			for _, signs := range []string{"", "[", "?", "[[", "[?", "?[", "??", "???"} {
				for _, s := range someParts {
					checkLikeSlowValue(t, c, signs+kind, s)
				}
				for _, v := range valueCases {
					checkLikeSlowValue(t, c, signs+kind, v.text)
				}
			}
		}
	}
}

func TestValueShortTexts(t *testing.T) {
	values := map[string]int{}
	for _, look := range []struct {
		kind, bytes string
		size        int
	}{
		{"n", "0159-+,", 5}, {"t", "'a ,A", 6}, {"f", "yesno", 4}, {"[n", "[],015", 6}, {"?n", "+-01", 6}, {"[?n", "[],+-1", 6}, {"??n", "+-10", 6}, {"[f", "[],no", 7},
		{"@a;", "{}=,157", 6}, {"@a;", "{}=+-42,", 5}, {"@b;", "<>=1350", 6}, {"@c;", "#012 ", 4}, {"[@c;", "[]#12,", 6},
	} {
		c := schemaRead(t, plainSchema)
		eachText("", look.bytes, look.size, func(s string) {
			_, ok := slowValue(c, look.kind, s)
			if impl.ValueOk(plainSchema, look.kind, s) != ok {
				t.Errorf("ValueOk(%q, %q, %q) = %v", plainSchema, look.kind, s, !ok)
			}
			if ok {
				values[look.kind]++
				checkLikeSlowValue(t, c, look.kind, s)
			}
		})
		if values[look.kind] == 0 {
			t.Errorf("no text of %q is a value of %q", look.bytes, look.kind)
		}
	}
}

func TestValueChangedByOneByte(t *testing.T) {
	for _, v := range valueCases {
		c := schemaRead(t, v.schema)
		values := 0
		changedTexts(v.text, "0159,=+-#'[]{}<>a ", func(s string) {
			if checkLikeSlowValue(t, c, v.kind, s) {
				values++
			}
		})
		// The text is among its own beginnings.
		if values == 0 {
			t.Errorf("no changed text of %q is a value of %q", v.text, v.kind)
		}
	}
}

func TestValueAnyByte(t *testing.T) {
	for b := range 256 {
		x := string([]byte{byte(b)})
		for _, v := range valueCases[:40] {
			c := schemaRead(t, v.schema)
			checkLikeSlowValue(t, c, v.kind, x+v.text)
			checkLikeSlowValue(t, c, v.kind, v.text+x)
			checkLikeSlowValue(t, c, v.kind, v.text[:len(v.text)/2]+x+v.text[len(v.text)/2:])
		}
		isText := b >= 'a' && b <= 'z' || b >= '0' && b <= '9' || b == ' '
		for _, s := range []string{"'" + x + "'", "'a" + x + "'", "'" + x + "a'", "'0" + x + " '", "'abcdefghijk" + x + "'"} {
			if impl.ValueOk("", "t", s) != isText {
				t.Errorf("ValueOk(t, %q) = %v", s, !isText)
			}
		}
	}
}

func TestValueNumbers(t *testing.T) {
	check := func(n int) {
		s := strconv.Itoa(n)
		if impl.ValueOk("", "n", s) != (n >= 0 && n <= 999999) {
			t.Errorf("ValueOk(n, %q) = %v", s, n < 0 || n > 999999)
		}
		checkNoValue(t, "", "n", "0"+s)
		checkNoValue(t, "", "n", "00"+s)
		checkNoValue(t, "", "n", "+"+s)
		checkNoValue(t, "", "[n", "[0"+s+"]")
	}
	for n := -1100; n <= 1100; n++ {
		check(n)
	}
	for n := 998900; n <= 1001100; n++ {
		check(n)
	}
	for n := 1; n < 1<<62; n *= 2 {
		check(n - 1)
		check(n)
		check(n + 1)
		check(-n)
	}
}

func TestValueTextTop(t *testing.T) {
	for size := range 40 {
		for _, sign := range []string{"a", "9", " "} {
			s := "'" + strings.Repeat(sign, size) + "'"
			for kind, text := range map[string]string{"t": s, "?t": "+" + s, "[t": "['a'," + s + "]"} {
				if impl.ValueOk("", kind, text) != (size <= 12) {
					t.Errorf("ValueOk(%q, %q) = %v", kind, text, size > 12)
				}
			}
		}
	}
}

func TestValueItemTop(t *testing.T) {
	c := schemaRead(t, plainSchema)
	for kind, item := range map[string]string{"n": "5", "t": "''", "f": "no", "?n": "-", "[n": "[]", "??n": "+-", "@a;": "{}", "@b;": "<1=0>", "@c;": "#2"} {
		for n := range 60 {
			s := "[" + strings.TrimSuffix(strings.Repeat(item+",", n), ",") + "]"
			if isValue := checkLikeSlowValue(t, c, "["+kind, s); isValue != (n <= 20) {
				t.Errorf("%q with %d items is a value: %v", s, n, isValue)
			}
			checkLikeSlowValue(t, c, "[["+kind, "["+s+",[]]")
		}
	}
}

// longValue is a value of [[t with as many bytes as are asked for, from 390 to 402, if that is not too many.
func longValue(size int) string {
	long := "'" + strings.Repeat("z", 12) + "'"
	rows := strings.Repeat("["+long+","+long+"],", 12)
	return "[" + rows + "['" + strings.Repeat("y", size-390) + "']]"
}

func TestValueTop(t *testing.T) {
	c := schemaRead(t, "Ra=1:x:[[t,2:y:n\n")
	for size := 390; size <= 402; size++ {
		s := longValue(size)
		if isValue := checkLikeSlowValue(t, c, "[[t", s); len(s) != size || isValue != (size <= 400) {
			t.Errorf("a text of %d bytes, %d wanted, is a value: %v", len(s), size, isValue)
		}
		if isValue := checkLikeSlowValue(t, c, "?[[t", "+"+s); isValue != (size <= 399) {
			t.Errorf("a text of %d bytes is a value: %v", size+1, isValue)
		}
		if isValue := checkLikeSlowValue(t, c, "@a;", "{1="+s+"}"); isValue != (size <= 396) {
			t.Errorf("a text of %d bytes is a value: %v", size+4, isValue)
		}
	}
}

func TestValueVeryLong(t *testing.T) {
	many := 1 << 20
	repeat := strings.Repeat
	for _, look := range []struct{ kind, text string }{
		{"n", repeat("0", many)}, {"n", repeat("1", many)}, {"t", "'" + repeat("a", many) + "'"}, {"f", repeat("no", many)}, {"[n", repeat("[", many)}, {"[n", "[" + repeat("1,", many) + "1]"}, {"?n", repeat("+", many)},
		{"@n;", repeat("{1=", many)}, {"@n;", repeat("{1=", many) + "{5='a'}" + repeat("}", many)}, {"@n;", repeat("{2=+", many) + "{}" + repeat("}", many)}, {"@d;", repeat("<2=", many)}, {"@d;", repeat("<2=", many) + "<1=''>" + repeat(">", many)}, {"@n;", "{" + repeat(" ", many) + "}"},
	} {
		if impl.ValueOk(deepSchema, look.kind, look.text) || impl.ValueSize(deepSchema, look.kind, look.text) != -1 || impl.ValueDeep(deepSchema, look.kind, look.text) != -1 {
			t.Errorf("a text of %d bytes that begins with %q is a value of %q", len(look.text), look.text[:10], look.kind)
		}
		if s, ok := impl.ValueField(deepSchema, "@n;", look.text, 1); s != "" || ok {
			t.Errorf("a text of %d bytes that begins with %q has a field", len(look.text), look.text[:10])
		}
		for tag := range 7 {
			if s, ok := impl.ValueSet(deepSchema, "@n;", "{}", tag, look.text); s != "" || ok {
				t.Errorf("the field %d is set to a text of %d bytes that begins with %q", tag, len(look.text), look.text[:10])
			}
		}
	}
}

// TestValueLongAndDeep has texts just within ValueTop that are far deeper than values may be.
func TestValueLongAndDeep(t *testing.T) {
	c := schemaRead(t, deepSchema)
	for n := range 98 {
		deep := strings.Repeat
		checkLikeSlowValue(t, c, "@n;", deep("{1=", n)+"{5='a'}"+deep("}", n))
		checkLikeSlowValue(t, c, "@n;", deep("{1=", n)+"{}"+deep("}", n))
		checkLikeSlowValue(t, c, "@n;", deep("{4=<3=", n)+"{}"+deep(">}", n))
		checkLikeSlowValue(t, c, "@d;", deep("<2=", n)+"<1=''>"+deep(">", n))
		checkLikeSlowValue(t, c, "@d;", deep("<2=", n)+"<1=''")
	}
}

func TestValueDeepTop(t *testing.T) {
	repeat := strings.Repeat
	for n := range 40 {
		for _, v := range []struct {
			kind, text string
			deep       int
		}{
			{"@n;", repeat("{1=", n) + "{5='a'}" + repeat("}", n), n + 2},
			{"@n;", repeat("{2=+", n) + "{}" + repeat("}", n), 2*n + 1},
			{"@n;", repeat("{3=[", n) + "{5='a'}" + repeat("]}", n), 2*n + 2},
			{"@n;", repeat("{4=<3=", n) + "{}" + repeat(">}", n), 2*n + 1},
			{"@d;", repeat("<2=", n) + "<1='a'>" + repeat(">", n), n + 2},
			{"[?@d;", "[-,+" + repeat("<2=", n) + "<1='a'>" + repeat(">", n) + ",-]", n + 4},
			{"@n;", "{4=" + repeat("<2=", n) + "<1='a'>" + repeat(">", n) + ",5='a'}", n + 3},
		} {
			if v.deep <= 12 {
				if deep := impl.ValueDeep(deepSchema, v.kind, v.text); deep != v.deep {
					t.Errorf("ValueDeep(%q, %q) = %d, want %d", v.kind, v.text, deep, v.deep)
				}
			} else {
				checkNoValue(t, deepSchema, v.kind, v.text)
			}
		}
	}
}

func TestValueTags(t *testing.T) {
	c := schemaRead(t, "Ra=1:x:n,19:y:n,200:z:n\nUb=1:x:n,19:y:n,200:z:n\nEc=1:x,19:y,200:z\n")
	heads := map[string][2]string{"@a;": {"{", "=8}"}, "@b;": {"<", "=8>"}, "@c;": {"#", ""}}
	for kind, head := range heads {
		for tag := -10; tag <= 1030; tag++ {
			for _, zeros := range []string{"", "0", "00"} {
				s := head[0] + zeros + strconv.Itoa(tag) + head[1]
				isValue := checkLikeSlowValue(t, c, kind, s)
				if want := zeros == "" && (tag == 1 || tag == 19 || tag == 200); isValue != want {
					t.Errorf("%q is a value of %q: %v", s, kind, isValue)
				}
			}
		}
	}
}

// TestValueTagsOfARecord has all rows of up to four tags, of which few ascend.
func TestValueTagsOfARecord(t *testing.T) {
	c := schemaRead(t, "Ra=2:x:n,9:y:n,10:z:n,100:w:n\n")
	values := 0
	eachText("", "abcde", 4, func(row string) {
		tags := map[rune]string{'a': "2=1", 'b': "9=1", 'c': "10=1", 'd': "100=1", 'e': "3=1"}
		var told []string
		for _, r := range row {
			told = append(told, tags[r])
		}
		if checkLikeSlowValue(t, c, "@a;", "{"+strings.Join(told, ",")+"}") {
			values++
		}
	})
	if values != 16 {
		t.Errorf("%d rows of tags are values, want 16", values)
	}
}

// TestValueStandingTold checks that a record does not tell a field's own standing value, but may tell its kind's.
func TestValueStandingTold(t *testing.T) {
	c := schemaRead(t, "Ra=1:x:n=5,2:y:n,3:z:t='a',4:w:t,5:v:f=yes,6:u:f,7:r:@a;,8:s:@u;\nUu=4:x:n,5:y:n\n")
	for _, look := range []struct {
		tag          string
		stand, other []string
	}{
		{"1", []string{"5"}, []string{"0", "4", "50", "999999"}},
		{"2", []string{"0"}, []string{"5", "1"}},
		{"3", []string{"'a'"}, []string{"''", "'b'", "'aa'"}},
		{"4", []string{"''"}, []string{"'a'", "' '"}},
		{"5", []string{"yes"}, []string{"no"}},
		{"6", []string{"no"}, []string{"yes"}},
		{"7", []string{"{}"}, []string{"{1=0}", "{7={1=4}}"}},
		{"8", []string{"<4=0>"}, []string{"<4=1>", "<5=0>"}},
	} {
		for _, part := range look.stand {
			checkNoValue(t, c.text, "@a;", "{"+look.tag+"="+part+"}")
			checkNoValue(t, c.text, "@a;", "{7={"+look.tag+"="+part+"}}")
			checkNoValue(t, c.text, "[@a;", "[{},{"+look.tag+"="+part+"}]")
		}
		for _, part := range look.other {
			checkLikeSlowValue(t, c, "@a;", "{"+look.tag+"="+part+"}")
			if !impl.ValueOk(c.text, "@a;", "{"+look.tag+"="+part+"}") {
				t.Errorf("a record does not tell %s=%s", look.tag, part)
			}
		}
	}
	// A union tells its standing value.
	if !impl.ValueOk(c.text, "@u;", "<4=0>") || !impl.ValueOk(c.text, "@u;", "<5=0>") {
		t.Errorf("a union does not tell a standing value")
	}
}

func TestValueMade(t *testing.T) {
	m := valueMaker{rand.New(rand.NewSource(5))}
	cases := append(m.schemas(t, 2000), schemaRead(t, plainSchema), schemaRead(t, fullSchema), schemaRead(t, deepSchema))
	values, others := 0, 0
	check := func(c schemaCase, kind string, s string) {
		if checkLikeSlowValue(t, c, kind, s) {
			values++
		} else {
			others++
		}
	}
	for range 12000 {
		c := cases[m.r.Intn(len(cases))]
		kind := m.kind(c)
		s := m.value(c, kind, m.r.Intn(8))
		check(c, kind, s)
		at := m.r.Intn(len(s))
		sign := string("0159,=+-#'[]{}<>a "[m.r.Intn(18)])
		check(c, kind, s[:at]+sign+s[at+1:])
		check(c, kind, s[:at]+s[at+1:])
		check(c, kind, s[:at]+sign+s[at:])
		check(c, m.kind(c), s)
	}
	if values < 10000 || others < 10000 {
		t.Errorf("%d texts are values, %d are none", values, others)
	}
}

func TestValueFieldCases(t *testing.T) {
	for _, look := range []struct {
		schema, kind, text string
		tag                int
		want               string
	}{
		{plainSchema, "@a;", "{}", 1, "5"},
		{plainSchema, "@a;", "{}", 2, "[]"},
		{plainSchema, "@a;", "{}", 4, "-"},
		{plainSchema, "@a;", "{1=0,4=+{1=9}}", 1, "0"},
		{plainSchema, "@a;", "{1=0,4=+{1=9}}", 2, "[]"},
		{plainSchema, "@a;", "{1=0,4=+{1=9}}", 4, "+{1=9}"},
		{plainSchema, "@a;", "{2=['a','',' b']}", 2, "['a','',' b']"},
		{fullSchema, "@r;", "{}", 2, "7"},
		{fullSchema, "@r;", "{}", 3, "''"},
		{fullSchema, "@r;", "{}", 4, "'ab'"},
		{fullSchema, "@r;", "{}", 5, "no"},
		{fullSchema, "@r;", "{}", 6, "yes"},
		{fullSchema, "@r;", "{}", 10, "<5=<9=#3>>"},
		{fullSchema, "@r;", "{}", 200, "#3"},
		{fullSchema, "@r;", "{10=<5=<11={2=8}>>,200=#20}", 10, "<5=<11={2=8}>>"},
		{fullSchema, "@r;", "{10=<6=[1,2]>,200=#20}", 200, "#20"},
		{fullSchema, "@s;", "{}", 3, "{}"},
		{fullSchema, "@s;", "{3={1=[5]}}", 3, "{1=[5]}"},
		{fullSchema, "@s;", "{3={1=[5]}}", 1, "[]"},
	} {
		checkField(t, look.schema, look.kind, look.text, look.tag, look.want, true)
	}
}

func TestValueFieldInvalid(t *testing.T) {
	for _, tag := range otherTags {
		if tag != 1 && tag != 2 && tag != 4 {
			checkField(t, plainSchema, "@a;", "{}", tag, "", false)
			checkField(t, plainSchema, "@a;", "{1=7,2=['hi','']}", tag, "", false)
			checkSet(t, plainSchema, "@a;", "{1=7}", tag, "8", "", false)
		}
		checkField(t, fullSchema, "@o;", "{}", tag, "", false)
		checkSet(t, fullSchema, "@o;", "{}", tag, "0", "", false)
	}
	// These are values, but of no record.
	for kind, s := range map[string]string{"n": "1", "t": "''", "f": "no", "[@a;": "[{1=7}]", "?@a;": "+{1=7}", "[n": "[1,2,3]", "@b;": "<1=5>", "@c;": "#1", "??@a;": "++{}"} {
		if !impl.ValueOk(plainSchema, kind, s) {
			t.Errorf("ValueOk(%q, %q) = false", kind, s)
		}
		for _, tag := range otherTags {
			checkField(t, plainSchema, kind, s, tag, "", false)
			for _, value := range []string{"0", "5", "8", "{}", "{1=7}", "#1", "#2", s} {
				checkSet(t, plainSchema, kind, s, tag, value, "", false)
			}
		}
	}
}

func TestValueSetCases(t *testing.T) {
	for _, look := range []struct {
		text  string
		tag   int
		value string
		want  string
	}{
		{"{}", 1, "7", "{1=7}"},
		{"{}", 1, "0", "{1=0}"},
		{"{}", 1, "5", "{}"},
		{"{1=7}", 1, "5", "{}"},
		{"{1=7}", 1, "7", "{1=7}"},
		{"{1=7}", 1, "999999", "{1=999999}"},
		{"{1=7}", 2, "['a']", "{1=7,2=['a']}"},
		{"{1=7}", 2, "[]", "{1=7}"},
		{"{4=+{}}", 1, "6", "{1=6,4=+{}}"},
		{"{4=+{}}", 2, "['']", "{2=[''],4=+{}}"},
		{"{1=6,4=+{}}", 2, "['']", "{1=6,2=[''],4=+{}}"},
		{"{1=6,2=[''],4=+{}}", 2, "[]", "{1=6,4=+{}}"},
		{"{1=6,2=[''],4=+{}}", 2, "['x','y']", "{1=6,2=['x','y'],4=+{}}"},
		{"{1=6,2=[''],4=+{}}", 4, "-", "{1=6,2=['']}"},
		{"{1=6,2=[''],4=+{}}", 4, "+{4=+{}}", "{1=6,2=[''],4=+{4=+{}}}"},
		{"{4=+{}}", 4, "-", "{}"},
		{"{}", 4, "+{1=6,2=[''],4=+{}}", "{4=+{1=6,2=[''],4=+{}}}"},
	} {
		checkSet(t, plainSchema, "@a;", look.text, look.tag, look.value, look.want, true)
	}
	checkSet(t, fullSchema, "@r;", "{1=1,200=#20}", 10, "<6=[]>", "{1=1,10=<6=[]>,200=#20}", true)
	checkSet(t, fullSchema, "@r;", "{10=<6=[]>}", 2, "8", "{2=8,10=<6=[]>}", true)
	checkSet(t, fullSchema, "@r;", "{10=<6=[]>,200=#20}", 10, "<5=<9=#3>>", "{200=#20}", true)
	checkSet(t, fullSchema, "@r;", "{200=#20}", 200, "#3", "{}", true)
	checkSet(t, fullSchema, "@r;", "{6=no}", 6, "yes", "{}", true)
	checkSet(t, fullSchema, "@s;", "{3={1=[5]}}", 3, "{}", "{}", true)
}

func TestValueSetOfNoValue(t *testing.T) {
	for _, look := range []struct {
		tag    int
		values []string
	}{
		{1, []string{"", "00", "05", "-1", "1000000", "'5'", "yes", "-", "[]", "7 ", "7,2=['']", "7}"}},
		{2, []string{"", "[1]", "[", "'a'", "['A']", "['abcdefghijklm']", "[''],4=+{}", "-", "+['a']", "[" + strings.TrimSuffix(strings.Repeat("'',", 21), ",") + "]"}},
		{4, []string{"", "{}", "+", "+{1=5}", "+{3=1}", "++{}", "0", "+-"}},
	} {
		for _, value := range look.values {
			checkSet(t, plainSchema, "@a;", "{}", look.tag, value, "", false)
			checkSet(t, plainSchema, "@a;", "{1=7,2=['hi',''],4=+{}}", look.tag, value, "", false)
		}
	}
	for _, s := range []string{"", "{", "{1=5}", "{2=[],1=7}", "{1=7,1=7}", "{3=0}", "{1=7} ", "-", "0"} {
		checkSet(t, plainSchema, "@a;", s, 1, "8", "", false)
		checkSet(t, plainSchema, "@a;", s, 1, "5", "", false)
		checkSet(t, plainSchema, "@a;", s, 2, "[]", "", false)
	}
}

func TestValueSetTooLong(t *testing.T) {
	const schema = "Ra=1:x:[[t,2:y:n,30:z:t\n"
	c := schemaRead(t, schema)
	for size := 390; size <= 402; size++ {
		s := longValue(size)
		want := "{1=" + s + "}"
		if len(want) > 400 {
			want = ""
		}
		checkSet(t, schema, "@a;", "{}", 1, s, want, want != "")
		if want == "" {
			continue
		}
		for n := 1; n <= 999999; n *= 10 {
			checkLikeSlowSet(t, c, "@a;", want, []string{strconv.Itoa(n)})
			set := want[:len(want)-1] + ",2=" + strconv.Itoa(n) + "}"
			if len(set) <= 400 {
				checkSet(t, schema, "@a;", want, 2, strconv.Itoa(n), set, true)
			} else {
				checkSet(t, schema, "@a;", want, 2, strconv.Itoa(n), "", false)
			}
		}
	}
	// A value as long as values may be can be made shorter, and another field can be left as it stands.
	full := "{1=" + longValue(396) + "}"
	checkSet(t, schema, "@a;", full, 1, "[]", "{}", true)
	checkSet(t, schema, "@a;", full, 2, "0", full, true)
	checkSet(t, schema, "@a;", full, 2, "1", "", false)
	checkSet(t, schema, "@a;", full, 30, "''", full, true)
	checkSet(t, schema, "@a;", full, 30, "'a'", "", false)
}

func TestValueSetTooDeep(t *testing.T) {
	repeat := strings.Repeat
	for n := range 12 {
		part := repeat("{1=", n) + "{5='a'}" + repeat("}", n)
		if isValue := n+2 <= 12; impl.ValueOk(deepSchema, "@n;", part) != isValue {
			t.Errorf("ValueOk(%q) = %v", part, !isValue)
		}
		want := "{1=" + part + "}"
		if n+3 > 12 {
			want = ""
		}
		checkSet(t, deepSchema, "@n;", "{}", 1, part, want, want != "")
	}
	checkSet(t, deepSchema, "@n;", "{5='a'}", 6, "[[[[[[[[[[[5]]]]]]]]]]]", "", false)
	checkSet(t, deepSchema, "@n;", "{5='a'}", 6, "[[[[[[[[[[[]]]]]]]]]]]", "{5='a',6=[[[[[[[[[[[]]]]]]]]]]]}", true)
	checkSet(t, deepSchema, "@n;", "{6=[[[[[[[[[[[]]]]]]]]]]]}", 6, "[[[[[[[[[[[5]]]]]]]]]]]", "", false)
	checkSet(t, deepSchema, "@n;", "{6=[[[[[[[[[[[]]]]]]]]]]]}", 6, "[]", "{}", true)
}

func TestValueSetLikeSlow(t *testing.T) {
	sets := 0
	for _, v := range valueCases {
		sets += checkLikeSlowSet(t, schemaRead(t, v.schema), v.kind, v.text, someParts)
	}
	for _, c := range notValues {
		for _, s := range c.texts {
			checkLikeSlowSet(t, schemaRead(t, c.schema), c.kind, s, someParts[:10])
		}
	}
	for _, v := range someRecords(t, 800) {
		sets += checkLikeSlowSet(t, v.c, v.kind, v.text, someParts)
	}
	if sets < 5000 {
		t.Errorf("only %d fields are set", sets)
	}
}

// TestPromise18ValueOkAndValueSize also holds ValueDeep, which tells -1 where they do.
func TestPromise18ValueOkAndValueSize(t *testing.T) {
	values, others := 0, 0
	for _, v := range someValues(t, 4000) {
		changedTexts(v.text[:min(len(v.text), 20)], "0,", func(s string) {
			ok := impl.ValueOk(v.c.text, v.kind, s)
			size, deep := impl.ValueSize(v.c.text, v.kind, s), impl.ValueDeep(v.c.text, v.kind, s)
			if ok != (size != -1) || ok != (deep != -1) || size < -1 {
				t.Errorf("ValueOk(%q, %q, %q) = %v, ValueSize is %d, ValueDeep is %d", v.c.text, v.kind, s, ok, size, deep)
			}
			if ok {
				values++
			} else {
				others++
			}
		})
	}
	if values == 0 || others == 0 {
		t.Errorf("%d texts are values, %d are none", values, others)
	}
}

func TestPromise18StandingValueOfAKind(t *testing.T) {
	for _, v := range someValues(t, 4000) {
		stand, ok := impl.SchemaStands(v.c.text, v.kind)
		if !ok || !impl.ValueOk(v.c.text, v.kind, stand) {
			t.Errorf("SchemaStands(%q, %q) = %q, %v, and no value", v.c.text, v.kind, stand, ok)
		}
	}
	// The deepest standing value has as many unions as a schema has types.
	s := linesOf(7, func(i int) string { return "U" + letter(i) + "=200:x:@" + letter(i+1) + ";" }) + "Uh=200:x:n\n"
	stand, ok := impl.SchemaStands(s, "@a;")
	if deep := impl.ValueDeep(s, "@a;", stand); !ok || deep != 9 {
		t.Errorf("SchemaStands(%q, @a;) = %q, %v, of depth %d", s, stand, ok, deep)
	}
}

var (
	tagsOfFields = regexp.MustCompile(`([{<,])[0-9]+=`)
	leafOfValue  = regexp.MustCompile(`'[^']*'|yes|no|#[0-9]+|[0-9]+|-`)
)

// TestPromise19SizeCountsPlaces counts, until paths are built, the places in the text itself.
func TestPromise19SizeCountsPlaces(t *testing.T) {
	sizes := map[int]bool{}
	for _, v := range someValues(t, 8000) {
		size := impl.ValueSize(v.c.text, v.kind, v.text)
		places := len(leafOfValue.FindAllString(tagsOfFields.ReplaceAllString(v.text, "$1"), -1))
		if size != places {
			t.Errorf("ValueSize(%q, %q, %q) = %d, want %d", v.c.text, v.kind, v.text, size, places)
		}
		sizes[size] = true
	}
	if !sizes[0] || !sizes[1] || len(sizes) < 10 {
		t.Errorf("there are only values of %d sizes", len(sizes))
	}
}

func TestPromise20ValueDeep(t *testing.T) {
	deeps := map[int]bool{}
	for _, v := range someValues(t, 8000) {
		deep := impl.ValueDeep(v.c.text, v.kind, v.text)
		if deep < 1 || deep > 12 {
			t.Errorf("ValueDeep(%q, %q, %q) = %d", v.c.text, v.kind, v.text, deep)
		}
		deeps[deep] = true
	}
	if !deeps[1] || !deeps[12] {
		t.Errorf("no value is 1 deep, or none is 12 deep")
	}
}

func TestPromise21SetToValueField(t *testing.T) {
	fields, untold := 0, 0
	for _, v := range someRecords(t, 8000) {
		def, _ := recordOf(v.c, v.kind)
		for _, f := range def.fields {
			field, ok := impl.ValueField(v.c.text, v.kind, v.text, f.tag)
			if !ok || !impl.ValueOk(v.c.text, f.kind, field) {
				t.Errorf("ValueField(%q, %q, %q, %d) = %q, %v, and no value of %q", v.c.text, v.kind, v.text, f.tag, field, ok, f.kind)
			}
			checkSet(t, v.c.text, v.kind, v.text, f.tag, field, v.text, true)
			fields++
			if _, told := v.told.fields[f.tag]; !told {
				untold++
			}
		}
	}
	if untold == 0 || untold == fields {
		t.Errorf("%d of %d fields are not told", untold, fields)
	}
}

func TestPromise22ValueFieldOfValueSet(t *testing.T) {
	m := valueMaker{rand.New(rand.NewSource(22))}
	sets := 0
	for _, v := range someRecords(t, 8000) {
		def, _ := recordOf(v.c, v.kind)
		for _, f := range def.fields {
			value := m.value(v.c, f.kind, 3)
			if m.r.Intn(4) == 0 {
				value = f.stand
			}
			set, ok := impl.ValueSet(v.c.text, v.kind, v.text, f.tag, value)
			if !ok {
				continue
			}
			sets++
			was, _ := impl.ValueField(v.c.text, v.kind, v.text, f.tag)
			checkSet(t, v.c.text, v.kind, set, f.tag, was, v.text, true)
			for _, other := range def.fields {
				want := value
				if other.tag != f.tag {
					want, _ = impl.ValueField(v.c.text, v.kind, v.text, other.tag)
				}
				checkField(t, v.c.text, v.kind, set, other.tag, want, true)
			}
		}
	}
	if sets < 1000 {
		t.Errorf("only %d fields are set", sets)
	}
}

func TestPromise23TwoFieldsInEitherOrder(t *testing.T) {
	m := valueMaker{rand.New(rand.NewSource(23))}
	both := 0
	for _, v := range someRecords(t, 8000) {
		def, _ := recordOf(v.c, v.kind)
		for i, f := range def.fields {
			for _, g := range def.fields[i+1:] {
				a, b := m.value(v.c, f.kind, 3), m.value(v.c, g.kind, 3)
				first, firstOk := impl.ValueSet(v.c.text, v.kind, v.text, f.tag, a)
				second, secondOk := impl.ValueSet(v.c.text, v.kind, v.text, g.tag, b)
				// One that is too long on the way may fail in one order only.
				if !firstOk || !secondOk {
					continue
				}
				both++
				x, xOk := impl.ValueSet(v.c.text, v.kind, first, g.tag, b)
				y, yOk := impl.ValueSet(v.c.text, v.kind, second, f.tag, a)
				if x != y || xOk != yOk {
					t.Errorf("ValueSet(%q, %q, %q) of %d=%s and %d=%s is %q, %v, and %q, %v", v.c.text, v.kind, v.text, f.tag, a, g.tag, b, x, xOk, y, yOk)
				}
			}
		}
	}
	if both < 1000 {
		t.Errorf("only %d pairs of fields are set", both)
	}
}
