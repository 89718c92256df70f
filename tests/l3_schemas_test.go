package tests

import (
	"math"
	"math/rand"
	"regexp"
	"slices"
	"strconv"
	"strings"
	"testing"

	"loop.example/wireforms/impl"
)

// schemaField is a field with all that is told of it; kind and stand are empty in an enumeration.
type schemaField struct {
	tag               int
	name, kind, stand string
}

// schemaType is a type with all that is told of it; used are the names that are reached from it.
type schemaType struct {
	sort, name, stand string
	fields            []schemaField
	used              []string
}

// schemaCase is a schema with its types, written out.
type schemaCase struct {
	text  string
	types []schemaType
}

var schemaCases = []schemaCase{
	{"", nil},
	{"Ra=\n", []schemaType{{"R", "a", "{}", nil, []string{"a"}}}},
	{"Ezzz=200:zzz\n", []schemaType{{"E", "zzz", "#200", []schemaField{{200, "zzz", "", ""}}, []string{"zzz"}}}},
	{"Un=1:n:n\n", []schemaType{{"U", "n", "<1=0>", []schemaField{{1, "n", "n", "0"}}, []string{"n"}}}},
	{"Ra=1:a:n,2:b:t,9:c:f,10:d:[n,99:e:?f,100:f:@a;,200:g:[?@a;\n", []schemaType{{"R", "a", "{}", []schemaField{
		{1, "a", "n", "0"}, {2, "b", "t", "''"}, {9, "c", "f", "no"}, {10, "d", "[n", "[]"}, {99, "e", "?f", "-"}, {100, "f", "@a;", "{}"}, {200, "g", "[?@a;", "[]"},
	}, []string{"a"}}}},
	{"Rrec=1:a:n=1,2:b:n=999999,3:c:t=' ',4:d:t='az09 zz 90aa',5:e:f=yes,6:f:t='0',7:g:t='no',8:h:n=10\n", []schemaType{{"R", "rec", "{}", []schemaField{
		{1, "a", "n", "1"}, {2, "b", "n", "999999"}, {3, "c", "t", "' '"}, {4, "d", "t", "'az09 zz 90aa'"}, {5, "e", "f", "yes"}, {6, "f", "t", "'0'"}, {7, "g", "t", "'no'"}, {8, "h", "n", "10"},
	}, []string{"rec"}}}},
	{"Ra=1:p:n=5,2:q:[t,4:r:?@a;\nUb=1:x:n,3:y:@a;\nEc=1:on,2:off\n", []schemaType{
		{"R", "a", "{}", []schemaField{{1, "p", "n", "5"}, {2, "q", "[t", "[]"}, {4, "r", "?@a;", "-"}}, []string{"a"}},
		{"U", "b", "<1=0>", []schemaField{{1, "x", "n", "0"}, {3, "y", "@a;", "{}"}}, []string{"a", "b"}},
		{"E", "c", "#1", []schemaField{{1, "on", "", ""}, {2, "off", "", ""}}, []string{"c"}},
	}},
	{"Uz=7:x:@y;\nUy=8:x:@ab;,9:y:@z;\nUab=6:x:@e;,7:y:[@z;\nEe=3:x\nRb=1:x:?@e;,2:y:[[@b;,3:z:@z;\nRq=1:q:@b;\n", []schemaType{
		{"U", "z", "<7=<8=<6=#3>>>", []schemaField{{7, "x", "@y;", "<8=<6=#3>>"}}, []string{"ab", "e", "y", "z"}},
		{"U", "y", "<8=<6=#3>>", []schemaField{{8, "x", "@ab;", "<6=#3>"}, {9, "y", "@z;", "<7=<8=<6=#3>>>"}}, []string{"ab", "e", "y", "z"}},
		{"U", "ab", "<6=#3>", []schemaField{{6, "x", "@e;", "#3"}, {7, "y", "[@z;", "[]"}}, []string{"ab", "e", "y", "z"}},
		{"E", "e", "#3", []schemaField{{3, "x", "", ""}}, []string{"e"}},
		{"R", "b", "{}", []schemaField{{1, "x", "?@e;", "-"}, {2, "y", "[[@b;", "[]"}, {3, "z", "@z;", "<7=<8=<6=#3>>>"}}, []string{"ab", "b", "e", "y", "z"}},
		{"R", "q", "{}", []schemaField{{1, "q", "@b;", "{}"}}, []string{"ab", "b", "e", "q", "y", "z"}},
	}},
	{"Ua=1:x:t\nUb=2:x:f\nUc=3:x:[@c;\nUd=4:x:?@d;\nUe=5:x:@r;\nRr=1:x:@r;\n", []schemaType{
		{"U", "a", "<1=''>", []schemaField{{1, "x", "t", "''"}}, []string{"a"}},
		{"U", "b", "<2=no>", []schemaField{{2, "x", "f", "no"}}, []string{"b"}},
		{"U", "c", "<3=[]>", []schemaField{{3, "x", "[@c;", "[]"}}, []string{"c"}},
		{"U", "d", "<4=->", []schemaField{{4, "x", "?@d;", "-"}}, []string{"d"}},
		{"U", "e", "<5={}>", []schemaField{{5, "x", "@r;", "{}"}}, []string{"e", "r"}},
		{"R", "r", "{}", []schemaField{{1, "x", "@r;", "{}"}}, []string{"r"}},
	}},
}

// notSchemas are texts that are no schemas, or none that are valid.
var notSchemas = []string{
	"\n", " ", "R", "Ra", "Ra=", "Ra\n", "R=\n", "=\n", "a=\n", "R\n", "Ra=\n\n", "\nRa=\n", "Ra=\r\n", "Ra=\n ", " Ra=\n", "Ra= \n", "Ra =\n", "R a=\n", "Ra==\n", "Ra=\nRb=", "Ra=\nx", "Ra=\x00\n",
	"ra=\n", "Aa=\n", "Xa=1:x:n\n", "RRa=\n", "RA=\n", "Ra1=\n", "Rabcd=\n", "Rabcde=1:x:n\n", "Eabcd=1:x\n", "Uabcd=1:x:n\n", "@a;=\n", "R@a;=\n", "\xffa=\n",
	"Ua=\n", "Ea=\n",
	"Ra=,\n", "Ra=1:x:n,\n", "Ra=,1:x:n\n", "Ra=1:x:n,,2:y:n\n", "Ra=1:x:n;2:y:n\n", "Ra=1:x:n 2:y:n\n", "Ra=1:x:n, 2:y:n\n", "Ra=1:x:n2:y:n\n", "Ea=1:x,\n", "Ea=1:x,,2:y\n", "Ua=1:x:n,\n", "Ua=,1:x:n\n",
	"Ra=1\n", "Ra=1:\n", "Ra=1:x\n", "Ra=1:x:\n", "Ra=1x:n\n", "Ra=x:n\n", "Ra=:x:n\n", "Ra=1::n\n", "Ra=1:x:n:\n", "Ra=1:x:n:n\n", "Ra=1:x:x\n", "Ra=1:x:nn\n", "Ra=1:x:N\n", "Ra=1:x: n\n", "Ra=1:x:n \n", "Ra=1: x:n\n", "Ra=1 :x:n\n", "Ra= 1:x:n\n", "Ra=1:X:n\n", "Ra=1:x1:n\n", "Ra=1:abcd:n\n", "Ra=1:x:[\n", "Ra=1:x:?\n", "Ra=1:x:@\n", "Ra=1:x:@a\n", "Ra=1:x:@;\n", "Ra=1:x:a\n", "Ra=1:x:@abcd;\n", "Ra=1:x:[[[[[[[[[[[[n\n",
	"Ua=1\n", "Ua=1:x\n", "Ua=1:x:\n", "Ua=1::n\n", "Ua=1:abcd:n\n", "Ua=1:x:x\n", "Ua=1:x:n=5\n", "Ua=1:x:t='a'\n", "Ua=1:x:f=yes\n", "Ua=1:x:n=0\n", "Ua=1:x:n=\n", "Ua=1:x:n,2:y:n=5\n",
	"Ea=1\n", "Ea=1:\n", "Ea=1:x:\n", "Ea=1:x:n\n", "Ea=1:x=1\n", "Ea=1:x=\n", "Ea=x\n", "Ea=:x\n", "Ea=1:X\n", "Ea=1:abcd\n", "Ea=1:x;\n",
	"Ra=0:x:n\n", "Ra=00:x:n\n", "Ra=01:x:n\n", "Ra=001:x:n\n", "Ra=0200:x:n\n", "Ra=201:x:n\n", "Ra=999:x:n\n", "Ra=1000:x:n\n", "Ra=-1:x:n\n", "Ra=+1:x:n\n", "Ra=1.0:x:n\n", "Ra=1e1:x:n\n", "Ra=0x1:x:n\n", "Ra=1_0:x:n\n",
	"Ra=18446744073709551617:x:n\n", "Ra=4294967297:x:n\n", "Ra=340282366920938463463374607431768211457:x:n\n", "Ra=256:x:n\n", "Ra=257:x:n\n",
	"Ua=0:x:n\n", "Ua=01:x:n\n", "Ua=201:x:n\n", "Ea=0:x\n", "Ea=01:x\n", "Ea=201:x\n", "Ea=-1:x\n",
	"Ra=1:x:n,1:y:n\n", "Ra=2:x:n,1:y:n\n", "Ra=10:x:n,9:y:n\n", "Ra=1:x:n,3:y:n,2:z:n\n", "Ra=1:x:n,2:y:n,2:z:n\n", "Ua=1:x:n,1:y:n\n", "Ua=2:x:n,1:y:n\n", "Ea=1:x,1:y\n", "Ea=2:x,1:y\n", "Ea=1:x,3:y,2:z\n", "Ea=100:x,20:y\n",
	"Ra=1:x:n,2:x:n\n", "Ra=1:x:n,2:y:n,3:x:t\n", "Ua=1:x:n,2:x:t\n", "Ea=1:x,2:x\n", "Ea=1:x,2:y,3:x\n", "Ea=1:ab,2:abc,3:ab\n",
	"Ra=\nRa=\n", "Ra=\nEa=1:x\n", "Ua=1:x:n\nRa=\n", "Ra=\nRb=\nRa=1:x:n\n", "Eabc=1:x\nUabc=1:x:n\n",
	"Ra=1:x:@b;\n", "Ra=1:x:[@b;\n", "Ra=1:x:?@b;\n", "Ra=1:x:[?@b;\n", "Ra=1:x:n,2:y:@b;\n", "Ua=1:x:@b;\n", "Ua=1:x:n,2:y:[@b;\n", "Ra=1:x:@ab;\nRb=\n", "Ra=1:x:@a;\nRb=1:x:@c;\n", "Ra=\nRb=1:x:n,2:y:@c;,3:z:@a;\n", "Ra=1:b:@b;\n",
	"Ra=1:x:n=\n", "Ra=1:x:n=0\n", "Ra=1:x:n=00\n", "Ra=1:x:n=05\n", "Ra=1:x:n=-5\n", "Ra=1:x:n=+5\n", "Ra=1:x:n=1000000\n", "Ra=1:x:n=999999999999999999999\n", "Ra=1:x:n=18446744073709551617\n", "Ra=1:x:n=4294967297\n", "Ra=1:x:n= 5\n", "Ra=1:x:n=5 \n", "Ra=1:x:n=x\n", "Ra=1:x:n=5=5\n", "Ra=1:x:n==5\n", "Ra=1:x:n='5'\n", "Ra=1:x:n=yes\n", "Ra=1:x:n=''\n", "Ra=1:x:n=no\n", "Ra=1:x:n=5:\n",
	"Ra=1:x:t=\n", "Ra=1:x:t=''\n", "Ra=1:x:t='\n", "Ra=1:x:t='a\n", "Ra=1:x:t=a'\n", "Ra=1:x:t=a\n", "Ra=1:x:t='''\n", "Ra=1:x:t='a'b'\n", "Ra=1:x:t='A'\n", "Ra=1:x:t='a_b'\n", "Ra=1:x:t='a,b'\n", "Ra=1:x:t='a:b'\n", "Ra=1:x:t='a=b'\n", "Ra=1:x:t='\t'\n", "Ra=1:x:t='\n'\n", "Ra=1:x:t='\xe9'\n", "Ra=1:x:t='`'\n", "Ra=1:x:t='{'\n", "Ra=1:x:t='/'\n", "Ra=1:x:t='abcdefghijklm'\n", "Ra=1:x:t='             '\n", "Ra=1:x:t=5\n", "Ra=1:x:t=yes\n", "Ra=1:x:t=no\n", "Ra=1:x:t=0\n", "Ra=1:x:t='a' \n", "Ra=1:x:t= 'a'\n", "Ra=1:x:t=\"a\"\n",
	"Ra=1:x:f=\n", "Ra=1:x:f=no\n", "Ra=1:x:f=y\n", "Ra=1:x:f=Yes\n", "Ra=1:x:f=yes \n", "Ra=1:x:f=yess\n", "Ra=1:x:f=1\n", "Ra=1:x:f=0\n", "Ra=1:x:f='yes'\n", "Ra=1:x:f=''\n", "Ra=1:x:f=true\n",
	"Ra=1:x:[n=[]\n", "Ra=1:x:[n=5\n", "Ra=1:x:[n=0\n", "Ra=1:x:?n=-\n", "Ra=1:x:?n=5\n", "Ra=1:x:?t='a'\n", "Ra=1:x:[f=yes\n", "Ra=1:x:@a;={}\n", "Ra=1:x:@a;=5\n", "Ra=1:x:@b;=#1\nEb=1:x\n", "Ra=1:x:@b;=#2\nEb=1:x,2:y\n", "Ra=1:x:=5\n", "Ra=1:x=5:n\n", "Ra=1:x:x=5\n",
	"Ua=1:x:@a;\n", "Ua=1:x:@a;,2:y:n\n", "Ua=1:x:@b;\nUb=1:x:@a;\n", "Ua=1:x:@b;\nUb=1:x:@b;\n", "Ub=1:x:@b;\nUa=1:x:@b;\n", "Ua=1:x:@b;\nUb=1:x:@c;\nUc=1:x:@a;\n", "Ua=1:x:@b;\nUb=1:x:@c;\nUc=1:x:@b;\n", "Ua=1:x:n\nUb=1:x:@b;\n", "Ra=1:x:@b;\nUb=1:x:@c;,2:y:@a;\nUc=1:x:@b;,2:y:n\n", "Ra=\nEb=1:x\nUc=1:x:@c;,2:y:@a;,3:z:@b;\n",
}

// otherNames are names of no type, and texts that are no names.
var otherNames = []string{"", "a", "b", "ab", "x", "n", "r", "q", "xyz", "abcd", "A", "@a;", "a\n", " a", "Ra", "\x00"}

// otherKinds are kinds of many schemas, and of none, and texts that are no kinds.
var otherKinds = []string{
	"n", "t", "f", "[n", "?n", "[?t", "?[f", "@a;", "[@a;", "?@b;", "@b;", "@xyz;", "[@xyz;", "??@abc;", "[[[[[[[[[[[n", "???????????f",
	"", " ", "@", "@;", "@a", "a", "[", "?", "nn", "@a;n", "@abcd;", "[[[[[[[[[[[[n", "{}", "\n", "R",
}

// otherTags are tags at the edges, and numbers that are none.
var otherTags = []int{math.MinInt, -1, 0, 1, 2, 3, 4, 5, 6, 7, 8, 9, 10, 11, 99, 100, 127, 128, 199, 200, 201, 256, 257, 65537, math.MaxInt}

var (
	schemaHead  = regexp.MustCompile(`\A([RUE])([a-z]{1,3})=(.*)\z`)
	recordField = regexp.MustCompile(`\A([1-9][0-9]{0,2}):([a-z]{1,3}):(?:([^=,:]+)|(n)=([1-9][0-9]{0,5})|(t)=('[a-z0-9 ]{1,12}')|(f)=(yes))\z`)
	unionField  = regexp.MustCompile(`\A([1-9][0-9]{0,2}):([a-z]{1,3}):([^=,:]+)\z`)
	enumField   = regexp.MustCompile(`\A([1-9][0-9]{0,2}):([a-z]{1,3})\z`)
)

// slowField tells by the definition what field a text is; its standing value is left empty where the schema tells none.
func slowField(sort string, s string) (schemaField, bool) {
	look := map[string]*regexp.Regexp{"R": recordField, "U": unionField, "E": enumField}[sort]
	m := look.FindStringSubmatch(s)
	if m == nil {
		return schemaField{}, false
	}
	f := schemaField{name: m[2]}
	f.tag, _ = strconv.Atoi(m[1])
	if sort == "U" {
		f.kind = m[3]
	}
	if sort == "R" {
		f.kind, f.stand = m[3]+m[4]+m[6]+m[8], m[5]+m[7]+m[9]
	}
	_, isKind := slowKind(f.kind)
	return f, f.tag <= 200 && (isKind || sort == "E")
}

// slowType tells by the definition what type a line is.
func slowType(line string) (schemaType, bool) {
	m := schemaHead.FindStringSubmatch(line)
	if m == nil || m[3] == "" && m[1] != "R" {
		return schemaType{}, false
	}
	def := schemaType{sort: m[1], name: m[2]}
	if m[3] == "" {
		return def, true
	}
	names := map[string]bool{}
	tags := []int{0}
	for _, text := range strings.Split(m[3], ",") {
		f, ok := slowField(def.sort, text)
		if !ok {
			return schemaType{}, false
		}
		def.fields = append(def.fields, f)
		names[f.name] = true
		tags = append(tags, f.tag)
	}
	size := len(def.fields)
	return def, size <= 8 && len(names) == size && slices.IsSorted(tags) && len(slices.Compact(tags)) == size+1
}

// slowSchema tells by the definition, without the program, what types a text has, and whether it is a schema that is valid.
func slowSchema(s string) ([]schemaType, bool) {
	lines := strings.Split(s, "\n")
	if len(s) > 400 || len(lines) > 9 || lines[len(lines)-1] != "" {
		return nil, false
	}
	types := []schemaType{}
	names := map[string]bool{}
	for _, line := range lines[:len(lines)-1] {
		def, ok := slowType(line)
		if !ok || names[def.name] {
			return nil, false
		}
		names[def.name] = true
		types = append(types, def)
	}
	for i := range types {
		for _, f := range types[i].fields {
			if c, _ := slowKind(f.kind); c.name != "" && !names[c.name] {
				return nil, false
			}
		}
	}
	return types, slowStands(types) && slowUses(types)
}

// slowStands tells the standing values from types that have them to those that need these, and reports whether all have one in the end.
func slowStands(types []schemaType) bool {
	stands := map[string]string{}
	for range types {
		for _, def := range types {
			if stand, ok := slowStand(def, stands); ok {
				stands[def.name] = stand
			}
		}
	}
	for i := range types {
		types[i].stand = stands[types[i].name]
		for j := range types[i].fields {
			f := &types[i].fields[j]
			if f.stand == "" && f.kind != "" {
				f.stand, _ = slowKindStand(f.kind, stands)
			}
		}
	}
	return len(stands) == len(types)
}

// slowStand tells the standing value of a type where those of other types are told.
func slowStand(def schemaType, stands map[string]string) (string, bool) {
	switch def.sort {
	case "R":
		return "{}", true
	case "E":
		return "#" + strconv.Itoa(def.fields[0].tag), true
	}
	stand, ok := slowKindStand(def.fields[0].kind, stands)
	return "<" + strconv.Itoa(def.fields[0].tag) + "=" + stand + ">", ok
}

// slowKindStand tells the standing value of a kind where those of types are told.
func slowKindStand(kind string, stands map[string]string) (string, bool) {
	if stand, ok := map[byte]string{'n': "0", 't': "''", 'f': "no", '[': "[]", '?': "-"}[kind[0]]; ok {
		return stand, true
	}
	stand, ok := stands[kind[1:len(kind)-1]]
	return stand, ok
}

// slowUses tells what names are reached from each type, adding those of a field's type until nothing is new; it reports true.
func slowUses(types []schemaType) bool {
	used := map[string][]string{}
	for _, def := range types {
		used[def.name] = []string{def.name}
	}
	for range types {
		for _, def := range types {
			for _, f := range def.fields {
				c, _ := slowKind(f.kind)
				used[def.name] = append(used[def.name], used[c.name]...)
			}
			slices.Sort(used[def.name])
			used[def.name] = slices.Compact(used[def.name])
		}
	}
	for i := range types {
		types[i].used = used[types[i].name]
	}
	return true
}

// checkSchema holds all functions of a schema that is valid against what is told of its types.
func checkSchema(t *testing.T, c schemaCase) {
	t.Helper()
	if !impl.SchemaOk(c.text) {
		t.Errorf("SchemaOk(%q) = false", c.text)
	}
	var names []string
	for _, def := range c.types {
		names = append(names, def.name)
		checkType(t, c.text, def)
	}
	if got, ok := impl.SchemaTypes(c.text); !slices.Equal(got, names) || !ok {
		t.Errorf("SchemaTypes(%q) = %q, %v, want %q", c.text, got, ok, names)
	}
	for _, name := range otherNames {
		if !slices.Contains(names, name) {
			checkNoType(t, c.text, name)
		}
	}
	for _, kind := range otherKinds {
		checkSchemaKind(t, c, kind)
	}
	for _, def := range c.types {
		for _, signs := range []string{"", "[", "?", "[?", "???"} {
			checkSchemaKind(t, c, signs+"@"+def.name+";")
		}
		for _, f := range def.fields {
			checkSchemaKind(t, c, f.kind)
		}
	}
}

// checkType holds what the program tells of a type against what is told of it.
func checkType(t *testing.T, s string, def schemaType) {
	t.Helper()
	if sort, ok := impl.SchemaSort(s, def.name); sort != def.sort || !ok {
		t.Errorf("SchemaSort(%q, %q) = %q, %v, want %q", s, def.name, sort, ok, def.sort)
	}
	var tags []int
	for _, f := range def.fields {
		tags = append(tags, f.tag)
		name, kind, stand, ok := impl.SchemaField(s, def.name, f.tag)
		if got := (schemaField{f.tag, name, kind, stand}); got != f || !ok {
			t.Errorf("SchemaField(%q, %q, %d) = %q, %q, %q, %v, want %v", s, def.name, f.tag, name, kind, stand, ok, f)
		}
	}
	if got, ok := impl.SchemaTags(s, def.name); !slices.Equal(got, tags) || !ok {
		t.Errorf("SchemaTags(%q, %q) = %v, %v, want %v", s, def.name, got, ok, tags)
	}
	for _, tag := range otherTags {
		if !slices.Contains(tags, tag) {
			checkNoField(t, s, def.name, tag)
		}
	}
}

func checkNoType(t *testing.T, s string, name string) {
	t.Helper()
	if sort, ok := impl.SchemaSort(s, name); sort != "" || ok {
		t.Errorf("SchemaSort(%q, %q) = %q, %v, want no type", s, name, sort, ok)
	}
	if tags, ok := impl.SchemaTags(s, name); len(tags) != 0 || ok {
		t.Errorf("SchemaTags(%q, %q) = %v, %v, want no type", s, name, tags, ok)
	}
	for _, tag := range otherTags {
		checkNoField(t, s, name, tag)
	}
}

func checkNoField(t *testing.T, s string, typeName string, tag int) {
	t.Helper()
	if name, kind, stand, ok := impl.SchemaField(s, typeName, tag); name+kind+stand != "" || ok {
		t.Errorf("SchemaField(%q, %q, %d) = %q, %q, %q, %v, want no field", s, typeName, tag, name, kind, stand, ok)
	}
}

// checkSchemaKind holds what the program tells of a kind against what is told of the schema's types.
func checkSchemaKind(t *testing.T, c schemaCase, kind string) {
	t.Helper()
	k, ok := slowKind(kind)
	stand, used := "", []string(nil)
	if ok && k.name == "" {
		stand, _ = slowKindStand(kind, nil)
	}
	if ok && k.name != "" {
		i := slices.IndexFunc(c.types, func(def schemaType) bool { return def.name == k.name })
		if i < 0 {
			checkNoSchemaKind(t, c.text, kind)
			return
		}
		stand, _ = slowKindStand(kind, map[string]string{k.name: c.types[i].stand})
		used = c.types[i].used
	}
	if !ok {
		checkNoSchemaKind(t, c.text, kind)
		return
	}
	if got, ok := impl.SchemaStands(c.text, kind); got != stand || !ok {
		t.Errorf("SchemaStands(%q, %q) = %q, %v, want %q", c.text, kind, got, ok, stand)
	}
	if got, ok := impl.SchemaUsed(c.text, kind); !slices.Equal(got, used) || !ok {
		t.Errorf("SchemaUsed(%q, %q) = %q, %v, want %q", c.text, kind, got, ok, used)
	}
}

func checkNoSchemaKind(t *testing.T, s string, kind string) {
	t.Helper()
	if stand, ok := impl.SchemaStands(s, kind); stand != "" || ok {
		t.Errorf("SchemaStands(%q, %q) = %q, %v, want none", s, kind, stand, ok)
	}
	if used, ok := impl.SchemaUsed(s, kind); len(used) != 0 || ok {
		t.Errorf("SchemaUsed(%q, %q) = %q, %v, want none", s, kind, used, ok)
	}
}

// checkNoSchema checks that no function tells anything of a text that is no schema.
func checkNoSchema(t *testing.T, s string) {
	t.Helper()
	if impl.SchemaOk(s) {
		t.Errorf("SchemaOk(%q) = true", s)
	}
	if names, ok := impl.SchemaTypes(s); len(names) != 0 || ok {
		t.Errorf("SchemaTypes(%q) = %q, %v, want no schema", s, names, ok)
	}
	for _, name := range []string{"", "a", "b", "ab", "abc"} {
		if sort, ok := impl.SchemaSort(s, name); sort != "" || ok {
			t.Errorf("SchemaSort(%q, %q) = %q, %v, want no schema", s, name, sort, ok)
		}
		if tags, ok := impl.SchemaTags(s, name); len(tags) != 0 || ok {
			t.Errorf("SchemaTags(%q, %q) = %v, %v, want no schema", s, name, tags, ok)
		}
		checkNoField(t, s, name, 1)
	}
	for _, kind := range []string{"", "n", "[t", "?f", "@a;", "[@b;"} {
		checkNoSchemaKind(t, s, kind)
	}
}

// checkLikeSlowSchema holds a text against the definition, and reports whether it is a schema that is valid.
func checkLikeSlowSchema(t *testing.T, s string) bool {
	t.Helper()
	types, ok := slowSchema(s)
	if ok {
		checkSchema(t, schemaCase{s, types})
	} else {
		checkNoSchema(t, s)
	}
	return ok
}

// linesOf is n lines, for the numbers from 0 on, each with its newline.
func linesOf(n int, line func(i int) string) string {
	var all strings.Builder
	for i := range n {
		all.WriteString(line(i) + "\n")
	}
	return all.String()
}

// letter is the name of one small letter, a for 0.
func letter(i int) string {
	return string([]byte{'a' + byte(i)})
}

// fieldsOf are n fields with tags from 1 on, each with the text of end behind its name.
func fieldsOf(n int, end string) string {
	var all []string
	for i := range n {
		all = append(all, strconv.Itoa(i+1)+":"+letter(i)+end)
	}
	return strings.Join(all, ",")
}

// changedTexts calls visit with a text's beginnings, and the text with one byte left out, doubled, changed with the next one, replaced or put in.
func changedTexts(s string, bytes string, visit func(string)) {
	for i := range len(s) + 1 {
		visit(s[:i])
		for b := range len(bytes) {
			visit(s[:i] + bytes[b:b+1] + s[i:])
		}
		if i == len(s) {
			continue
		}
		visit(s[:i] + s[i+1:])
		visit(s[:i+1] + s[i:])
		if i+1 < len(s) {
			visit(s[:i] + s[i+1:i+2] + s[i:i+1] + s[i+2:])
		}
		for b := range len(bytes) {
			visit(s[:i] + bytes[b:b+1] + s[i+1:])
		}
	}
}

// madeSchemas are texts that a maker with a fixed seed makes; many are schemas that are valid, and some are not.
func madeSchemas(n int) []string {
	r := rand.New(rand.NewSource(3))
	kinds := []string{"n", "t", "f", "n=7", "t='a b'", "f=yes", "[n", "?t", "n=0", "[?f"}
	var texts []string
	for range n {
		count := 1 + r.Intn(4)
		texts = append(texts, linesOf(count, func(i int) string {
			var fields []string
			tag := 0
			sort := "RUE"[r.Intn(3)]
			for j := range r.Intn(4) {
				tag += 1 + r.Intn(70)
				end := ":" + kinds[r.Intn(len(kinds))]
				if r.Intn(2) == 0 {
					end = ":" + []string{"", "", "[", "?", "?["}[r.Intn(5)] + "@" + letter(r.Intn(count)) + ";"
				}
				if sort == 'U' {
					end, _, _ = strings.Cut(end, "=")
				}
				if sort == 'E' {
					end = ""
				}
				fields = append(fields, strconv.Itoa(tag)+":"+letter(j)+end)
			}
			return string(sort) + letter(i) + "=" + strings.Join(fields, ",")
		}))
	}
	return texts
}

// someSchemas are texts that are schemas and that are none.
func someSchemas() []string {
	texts := append(madeSchemas(3000), notSchemas...)
	for _, c := range schemaCases {
		texts = append(texts, c.text)
	}
	return texts
}

func TestSchemaLimits(t *testing.T) {
	if impl.SchemaTop != 400 || impl.TypeTop != 8 || impl.FieldTop != 8 || impl.TagTop != 200 {
		t.Errorf("SchemaTop = %d, TypeTop = %d, FieldTop = %d, TagTop = %d", impl.SchemaTop, impl.TypeTop, impl.FieldTop, impl.TagTop)
	}
}

func TestSchemaCases(t *testing.T) {
	for _, c := range schemaCases {
		checkSchema(t, c)
		if types, ok := slowSchema(c.text); !ok || len(types) != len(c.types) {
			t.Errorf("the slow reading of %q has %d types, %v", c.text, len(types), ok)
		}
	}
}

func TestSchemaInvalid(t *testing.T) {
	for _, s := range notSchemas {
		checkNoSchema(t, s)
		if _, ok := slowSchema(s); ok {
			t.Errorf("the slow reading takes %q", s)
		}
	}
}

func TestSchemaInvalidAmongOthers(t *testing.T) {
	for _, s := range notSchemas {
		checkLikeSlowSchema(t, "Rzzz=1:x:n=5\n"+s)
		checkLikeSlowSchema(t, s+"Ezzz=1:x\n")
	}
}

func TestSchemaChangedByOneByte(t *testing.T) {
	all := make([]byte, 256)
	for b := range all {
		all[b] = byte(b)
	}
	valid := 0
	check := func(s string) {
		if checkLikeSlowSchema(t, s) {
			valid++
		}
	}
	changedTexts("Ra=1:p:n=5\n", string(all), check)
	for _, s := range []string{"Ub=10:x:t,20:y:?@b;\n", "Ec=1:on,200:off\n", "Ra=9:a:t='a 1',19:b:f=yes,99:c:[@b;\nUb=2:x:@a;\n", "Ua=1:x:@b;\nUb=1:x:@c;\nUc=1:x:n\n"} {
		changedTexts(s, "ab019:;,=\n'@[?ntfRUE \xff", check)
	}
	if valid == 0 {
		t.Errorf("no changed text is a schema")
	}
}

func TestSchemaMade(t *testing.T) {
	valid := 0
	texts := madeSchemas(5000)
	for _, s := range texts {
		if checkLikeSlowSchema(t, s) {
			valid++
		}
	}
	if valid < 1000 || valid > len(texts)-1000 {
		t.Errorf("%d of %d texts are schemas", valid, len(texts))
	}
}

func TestSchemaTooLong(t *testing.T) {
	full := linesOf(2, func(i int) string { return "R" + letter(i) + "=" + fieldsOf(8, ":t='"+strings.Repeat("z", 12)+"'") })
	// What is wanted behind the two full records is spread over three standing values.
	filled := func(size int) string {
		rest := size - len(full) - len("Rc=1:a:t='',2:b:t='',3:c:t=''\n")
		first := min(12, rest-2)
		second := min(12, rest-first-1)
		fill := func(n int) string { return strings.Repeat("y", n) }
		return full + "Rc=1:a:t='" + fill(first) + "',2:b:t='" + fill(second) + "',3:c:t='" + fill(rest-first-second) + "'\n"
	}
	for size := 385; size <= 405; size++ {
		s := filled(size)
		if isSchema := checkLikeSlowSchema(t, s); len(s) != size || isSchema != (size <= 400) {
			t.Errorf("a text of %d bytes, %d wanted, is a schema: %v", len(s), size, isSchema)
		}
	}
}

func TestSchemaVeryLong(t *testing.T) {
	for _, s := range []string{
		strings.Repeat("Ra=\n", 1<<18), strings.Repeat("R", 1<<20), strings.Repeat("\n", 1<<20), "Ra=" + strings.Repeat("1", 1<<20) + ":x:n\n", "Ra=1:x:" + strings.Repeat("[", 1<<20) + "n\n", "Ra=1:x:t='" + strings.Repeat("a", 1<<20) + "'\n", "R" + strings.Repeat("a", 401) + "=\n",
	} {
		if names, ok := impl.SchemaTypes(s); impl.SchemaOk(s) || len(names) != 0 || ok {
			t.Errorf("a text of %d bytes that begins with %q is a schema", len(s), s[:10])
		}
	}
	long := strings.Repeat("a", 1<<20)
	checkNoType(t, "Ra=1:x:n\n", long)
	checkNoSchemaKind(t, "Ra=1:x:n\n", "@"+long+";")
	checkNoSchemaKind(t, "Ra=1:x:n\n", strings.Repeat("[", 1<<20)+"n")
}

func TestSchemaTypeTop(t *testing.T) {
	ends := map[string]string{"R": "=", "U": "=1:x:n", "E": "=1:x"}
	for sort, end := range ends {
		for n := range 12 {
			s := linesOf(n, func(i int) string { return sort + letter(i) + end })
			if isSchema := checkLikeSlowSchema(t, s); isSchema != (n <= 8) {
				t.Errorf("%q with %d types is a schema: %v", s, n, isSchema)
			}
		}
	}
}

func TestSchemaFieldTop(t *testing.T) {
	ends := map[string]string{"R": ":n", "U": ":[t", "E": ""}
	for sort, end := range ends {
		for n := range 12 {
			s := sort + "abc=" + fieldsOf(n, end) + "\n"
			if isSchema := checkLikeSlowSchema(t, s); isSchema != (n <= 8 && (n > 0 || sort == "R")) {
				t.Errorf("%q with %d fields is a schema: %v", s, n, isSchema)
			}
		}
	}
}

func TestSchemaTagTop(t *testing.T) {
	ends := map[string]string{"R": ":x:n=5\n", "U": ":x:n\n", "E": ":x\n"}
	for sort, end := range ends {
		for tag := range 1200 {
			for _, zeros := range []string{"", "0", "00"} {
				s := sort + "a=" + zeros + strconv.Itoa(tag) + end
				if isSchema := checkLikeSlowSchema(t, s); isSchema != (tag >= 1 && tag <= 200 && zeros == "") {
					t.Errorf("%q is a schema: %v", s, isSchema)
				}
			}
		}
	}
}

func TestSchemaTagsOfTwoFields(t *testing.T) {
	ends := map[string]string{"R": ":f", "U": ":t", "E": ""}
	for sort, end := range ends {
		for a := 1; a <= 200; a += 3 {
			for b := 1; b <= 200; b += 3 {
				s := sort + "a=" + strconv.Itoa(a) + ":x" + end + "," + strconv.Itoa(b) + ":y" + end + "\n"
				if impl.SchemaOk(s) != (a < b) {
					t.Errorf("SchemaOk(%q) = %v", s, a >= b)
				}
			}
		}
	}
}

func TestSchemaStandingNumbers(t *testing.T) {
	for _, n := range []int{1, 9, 10, 11, 99, 100, 12345, 99999, 100000, 999998, 999999} {
		s := "Ra=1:x:n=" + strconv.Itoa(n) + "\n"
		if _, _, stand, ok := impl.SchemaField(s, "a", 1); stand != strconv.Itoa(n) || !ok {
			t.Errorf("SchemaField(%q) has the standing value %q, %v", s, stand, ok)
		}
	}
	for _, n := range []int{1000000, 1000001, 9999999, 1 << 32, 1<<32 + 1, math.MaxInt} {
		checkNoSchema(t, "Ra=1:x:n="+strconv.Itoa(n)+"\n")
	}
}

func TestSchemaStandingTexts(t *testing.T) {
	for size := range 30 {
		s := "Ra=1:x:t='" + strings.Repeat("a", size) + "'\n"
		if isSchema := checkLikeSlowSchema(t, s); isSchema != (size >= 1 && size <= 12) {
			t.Errorf("%q is a schema: %v", s, isSchema)
		}
	}
	for b := range 256 {
		x := string([]byte{byte(b)})
		checkLikeSlowSchema(t, "Ra=1:x:t='"+x+"'\n")
		checkLikeSlowSchema(t, "Ra=1:x:t='a"+x+"b'\n")
	}
}

// TestSchemaStandingOfOtherKinds checks that each told value stands only for its own kind, and the kind's own standing value for none.
func TestSchemaStandingOfOtherKinds(t *testing.T) {
	own := map[string]string{"5": "n", "999999": "n", "'a'": "t", "' '": "t", "'5'": "t", "'yes'": "t", "yes": "f"}
	for _, kind := range []string{"n", "t", "f", "[n", "?n", "[t", "?f", "@a;", "@b;", "@c;", "?@c;"} {
		for _, stand := range []string{"5", "999999", "'a'", "' '", "'5'", "'yes'", "yes", "0", "''", "no", "", "[]", "-", "+5", "{}", "#1", "#2", "<1=0>", "<1=5>"} {
			s := "Ra=1:x:" + kind + "=" + stand + "\nUb=1:x:n\nEc=1:x,2:y\n"
			if isSchema := checkLikeSlowSchema(t, s); isSchema != (own[stand] == kind) {
				t.Errorf("%q is a schema: %v", s, isSchema)
			}
		}
	}
}

// TestSchemaUnionsComeBack holds all schemas of three unions with first fields of many kinds against the definition.
func TestSchemaUnionsComeBack(t *testing.T) {
	firsts := []string{"n", "@a;", "@b;", "@c;", "@r;", "@e;", "[@a;", "?@b;", "[?@c;"}
	seconds := []string{"", ",2:y:t", ",2:y:@a;", ",2:y:@r;"}
	valid, all := 0, 0
	for _, a := range firsts {
		for _, b := range firsts {
			for _, c := range firsts {
				for _, second := range seconds {
					all++
					if checkLikeSlowSchema(t, "Ua=1:x:"+a+second+"\nUb=1:x:"+b+second+"\nUc=1:x:"+c+second+"\nRr=1:x:@a;\nEe=1:x\n") {
						valid++
					}
				}
			}
		}
	}
	// 6 of 9 kinds lead to no union. Of 3 points there are 3*3 forests with one root, 3*2 with two, and 1 with three: 9*6+6*6*6+6*6*6 is 6*9*9.
	if want := 6 * 9 * 9 * len(seconds); valid != want {
		t.Errorf("%d of %d schemas of three unions are valid, want %d", valid, all, want)
	}
}

func TestSchemaUnionsInARow(t *testing.T) {
	for n := 2; n <= 8; n++ {
		row := linesOf(n-1, func(i int) string { return "U" + letter(i) + "=" + strconv.Itoa(i+1) + ":x:@" + letter(i+1) + ";" })
		for _, last := range []struct{ line, stand string }{{"U=200:x:n", "<200=0>"}, {"R=1:x:n", "{}"}, {"E=9:x", "#9"}, {"U=1:x:[@a;", "<1=[]>"}, {"U=1:x:?@a;", "<1=->"}, {"U=1:x:n,2:y:@a;", "<1=0>"}} {
			s := row + last.line[:1] + letter(n-1) + last.line[1:] + "\n"
			want := last.stand
			for i := n - 1; i > 0; i-- {
				want = "<" + strconv.Itoa(i) + "=" + want + ">"
			}
			if stand, ok := impl.SchemaStands(s, "@a;"); stand != want || !ok {
				t.Errorf("SchemaStands(%q, @a;) = %q, %v, want %q", s, stand, ok, want)
			}
			checkLikeSlowSchema(t, s)
		}
		for back := range n {
			s := row + "U" + letter(n-1) + "=1:x:@" + letter(back) + ";,2:y:n\n"
			checkNoSchema(t, s)
		}
	}
}

func TestSchemaRecordsMayComeBack(t *testing.T) {
	for _, s := range []string{"Ra=1:x:@a;\n", "Ra=1:x:@b;\nRb=1:x:@a;\n", "Ra=1:x:@b;\nUb=1:x:@a;\n", "Ub=1:x:@a;\nRa=1:x:@b;\n", "Ua=1:x:n,2:y:@a;\n", "Ua=1:x:n,2:y:@b;\nUb=1:x:@a;\n"} {
		if !checkLikeSlowSchema(t, s) {
			t.Errorf("%q is no schema", s)
		}
	}
}

func TestSchemaWithoutLastNewline(t *testing.T) {
	for _, c := range schemaCases {
		if c.text != "" {
			checkNoSchema(t, strings.TrimSuffix(c.text, "\n"))
			checkNoSchema(t, c.text+"\n")
		}
	}
}

func TestSchemaNewMemory(t *testing.T) {
	const s = "Ra=1:x:@b;,2:y:n\nRb=\n"
	names, _ := impl.SchemaTypes(s)
	names = append(names, "x")
	names[0] = "zz"
	tags, _ := impl.SchemaTags(s, "a")
	tags = append(tags, 9)
	tags[0] = 99
	used, _ := impl.SchemaUsed(s, "@a;")
	used = append(used, "x")
	used[0] = "zz"
	checkLikeSlowSchema(t, s)
}

func TestPromise11SchemaOkAndSchemaTypes(t *testing.T) {
	for _, s := range someSchemas() {
		names, ok := impl.SchemaTypes(s)
		if ok != impl.SchemaOk(s) {
			t.Errorf("SchemaOk(%q) = %v, SchemaTypes is %v", s, !ok, ok)
		}
		slices.Sort(names)
		if len(slices.Compact(slices.Clone(names))) != len(names) {
			t.Errorf("SchemaTypes(%q) has names twice: %q", s, names)
		}
	}
	// Each other function fails just with them.
	for _, s := range someSchemas() {
		_, stands := impl.SchemaStands(s, "n")
		_, used := impl.SchemaUsed(s, "n")
		if ok := impl.SchemaOk(s); stands != ok || used != ok {
			t.Errorf("SchemaOk(%q) = %v, SchemaStands is %v, SchemaUsed is %v", s, ok, stands, used)
		}
	}
}

func TestPromise12SortAndTagsOfEachName(t *testing.T) {
	types := 0
	for _, s := range someSchemas() {
		names, _ := impl.SchemaTypes(s)
		for _, name := range names {
			types++
			_, sorted := impl.SchemaSort(s, name)
			if _, ok := impl.SchemaTags(s, name); !ok || !sorted {
				t.Errorf("SchemaSort(%q, %q) is %v, SchemaTags is %v", s, name, sorted, ok)
			}
		}
	}
	if types == 0 {
		t.Errorf("no schema has a type")
	}
}

func TestPromise13OnlyARecordHasNoFields(t *testing.T) {
	sorts := map[string]int{}
	for _, s := range someSchemas() {
		names, _ := impl.SchemaTypes(s)
		for _, name := range names {
			sort, _ := impl.SchemaSort(s, name)
			tags, _ := impl.SchemaTags(s, name)
			if len(tags) == 0 && sort != "R" {
				t.Errorf("the type %q of %q is %q and has no fields", name, s, sort)
			}
			sorts[sort]++
		}
	}
	if len(sorts) != 3 || sorts["R"] == 0 || sorts["U"] == 0 || sorts["E"] == 0 {
		t.Errorf("SchemaSort tells %v, want R, U and E", sorts)
	}
}

func TestPromise14TagsAscendAndHaveFields(t *testing.T) {
	for _, s := range someSchemas() {
		names, _ := impl.SchemaTypes(s)
		for _, name := range names {
			tags, _ := impl.SchemaTags(s, name)
			last := 0
			for _, tag := range tags {
				if tag <= last || tag > impl.TagTop {
					t.Errorf("SchemaTags(%q, %q) = %v", s, name, tags)
				}
				last = tag
				if _, _, _, ok := impl.SchemaField(s, name, tag); !ok {
					t.Errorf("SchemaField(%q, %q, %d) is false", s, name, tag)
				}
			}
		}
	}
}

func checkStandsAsValue(t *testing.T, s string, kind string, text string) {
	t.Helper()
	if !impl.ValueOk(s, kind, text) {
		t.Errorf("%q is no value of the kind %q of %q", text, kind, s)
	}
}

func TestPromise15StandingValueOfAField(t *testing.T) {
	fields, told := 0, 0
	for _, s := range someSchemas() {
		names, _ := impl.SchemaTypes(s)
		for _, name := range names {
			tags, _ := impl.SchemaTags(s, name)
			for _, tag := range tags {
				_, kind, stand, _ := impl.SchemaField(s, name, tag)
				if kind == "" {
					continue
				}
				fields++
				checkStandsAsValue(t, s, kind, stand)
				if usual, _ := impl.SchemaStands(s, kind); usual != stand {
					told++
				}
			}
		}
	}
	if fields == 0 || told == 0 {
		t.Errorf("%d fields have kinds, %d of them with a standing value that is told", fields, told)
	}
}

func TestPromise16SchemaStandsIsAValue(t *testing.T) {
	for _, s := range someSchemas() {
		names, _ := impl.SchemaTypes(s)
		kinds := []string{"n", "t", "f", "[n", "?f"}
		for _, name := range names {
			kinds = append(kinds, "@"+name+";", "[@"+name+";", "?@"+name+";")
		}
		for _, kind := range kinds {
			stand, ok := impl.SchemaStands(s, kind)
			if ok != impl.SchemaOk(s) {
				t.Errorf("SchemaStands(%q, %q) = %q, %v", s, kind, stand, ok)
			}
			if ok {
				checkStandsAsValue(t, s, kind, stand)
			}
		}
	}
}

func TestPromise17UsedNamesUseNoOthers(t *testing.T) {
	within := 0
	for _, s := range someSchemas() {
		names, _ := impl.SchemaTypes(s)
		for _, name := range names {
			used, ok := impl.SchemaUsed(s, "@"+name+";")
			if !ok || !slices.Contains(used, name) || !slices.IsSorted(used) || len(slices.Compact(slices.Clone(used))) != len(used) {
				t.Errorf("SchemaUsed(%q, %q) = %q, %v", s, name, used, ok)
			}
			for _, other := range used {
				inner, ok := impl.SchemaUsed(s, "@"+other+";")
				if !ok {
					t.Errorf("SchemaUsed(%q, %q) is false", s, other)
				}
				for _, x := range inner {
					within++
					if !slices.Contains(used, x) {
						t.Errorf("SchemaUsed(%q, %q) = %q, and %q uses %q", s, name, used, other, x)
					}
				}
			}
		}
	}
	if within == 0 {
		t.Errorf("no type uses another one")
	}
}
