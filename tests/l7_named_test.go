package tests

import (
	"maps"
	"math/rand"
	"regexp"
	"slices"
	"strconv"
	"strings"
	"testing"

	"loop.example/wireforms/impl"
)

// namesSchema has names whose order is not that of tags, names that begin others, and fields whose values have no form with names.
const namesSchema = "Ra=1:b:n=5,2:ab:t,3:a:f,9:abc:[?n,10:aa:?@a;,100:z:@u;\nUu=1:z:n,2:y:??n,7:x:@a;,8:w:@e;\nEe=1:on,2:o,3:off\nRs=1:p:n,2:q:??t,3:r:[??n,4:s:@s;\n"

// namedCase is a value with its form with names, written out.
type namedCase struct {
	schema, kind, text, form string
}

var namedCases = []namedCase{
	{"", "n", "0", "0"},
	{"", "n", "10", "10"},
	{"", "n", "999999", "999999"},
	{"", "t", "''", "''"},
	{"", "t", "' '", "' '"},
	{"", "t", "'az09 yes'", "'az09 yes'"},
	{"", "t", "'null'", "'null'"},
	{"", "t", "'abcdefghijkl'", "'abcdefghijkl'"},
	{"", "f", "yes", "yes"},
	{"", "f", "no", "no"},
	{"", "[n", "[]", "[]"},
	{"", "[n", "[0]", "[0]"},
	{"", "[n", "[5,128,0]", "[5,128,0]"},
	{"", "[t", "['','hi']", "['','hi']"},
	{"", "[f", "[yes,no]", "[yes,no]"},
	{"", "[[n", "[[],[7],[1,2]]", "[[],[7],[1,2]]"},
	{"", "?n", "-", "null"},
	{"", "?n", "+0", "0"},
	{"", "?n", "+300", "300"},
	{"", "?t", "-", "null"},
	{"", "?t", "+''", "''"},
	{"", "?t", "+'null'", "'null'"},
	{"", "?f", "-", "null"},
	{"", "?f", "+no", "no"},
	{"", "?f", "+yes", "yes"},
	{"", "?[n", "-", "null"},
	{"", "?[n", "+[]", "[]"},
	{"", "?[n", "+[1,2]", "[1,2]"},
	// null within lists, at each place, and within lists in lists.
	{"", "[?n", "[-]", "[null]"},
	{"", "[?n", "[+0]", "[0]"},
	{"", "[?n", "[-,+0,-,-,+9]", "[null,0,null,null,9]"},
	{"", "[?n", "[+5,-]", "[5,null]"},
	{"", "[?f", "[-,+no,+yes,-]", "[null,no,yes,null]"},
	{"", "[?t", "[+'null',-,+'']", "['null',null,'']"},
	{"", "[[?n", "[[-],[],[+1,-]]", "[[null],[],[1,null]]"},
	{"", "?[?n", "+[-,+1]", "[null,1]"},
	{"", "?[?n", "+[]", "[]"},
	{"", "?[?n", "-", "null"},
	{"", "[?[?n", "[-,+[-],+[],+[+3,-]]", "[null,[null],[],[3,null]]"},
	{"", "?[?[?n", "+[-,+[-]]", "[null,[null]]"},
	{"", "[[[[[[[[[[[n", "[[[[[[[[[[[5]]]]]]]]]]]", "[[[[[[[[[[[5]]]]]]]]]]]"},
	{"", "?[?[?[?[?[n", "+[+[+[+[+[+[5]]]]]]", ""},
	{"", "?[?[?[?[?[n", "+[+[+[+[+[5]]]]]", "[[[[[5]]]]]"},
	{"", "?[?[?[?[?[n", "+[+[+[+[-]]]]", "[[[[null]]]]"},
	// Of ?? only a list without values has a form.
	{"", "[??n", "[]", "[]"},
	{"", "?[??n", "+[]", "[]"},
	{"", "?[??n", "-", "null"},
	{"", "[[??n", "[[],[]]", "[[],[]]"},
	{plainSchema, "@a;", "{}", "{}"},
	{plainSchema, "@a;", "{1=7}", "{p:7}"},
	{plainSchema, "@a;", "{1=0}", "{p:0}"},
	{plainSchema, "@a;", "{1=7,2=['hi']}", "{p:7,q:['hi']}"},
	{plainSchema, "@a;", "{2=['hi'],4=+{1=7}}", "{q:['hi'],r:{p:7}}"},
	{plainSchema, "@a;", "{4=+{}}", "{r:{}}"},
	{plainSchema, "@a;", "{1=4,4=+{4=+{1=50}}}", "{p:4,r:{r:{p:50}}}"},
	{plainSchema, "?@a;", "-", "null"},
	{plainSchema, "?@a;", "+{}", "{}"},
	{plainSchema, "?@a;", "+{1=6}", "{p:6}"},
	{plainSchema, "[@a;", "[{},{1=1},{}]", "[{},{p:1},{}]"},
	{plainSchema, "[?@a;", "[-,+{},-,+{4=+{}}]", "[null,{},null,{r:{}}]"},
	{plainSchema, "@b;", "<1=0>", "{x:0}"},
	{plainSchema, "@b;", "<1=5>", "{x:5}"},
	{plainSchema, "@b;", "<3={}>", "{y:{}}"},
	{plainSchema, "@b;", "<3={1=0,2=['a']}>", "{y:{p:0,q:['a']}}"},
	{plainSchema, "[@b;", "[<1=1>,<3={}>]", "[{x:1},{y:{}}]"},
	{plainSchema, "?@b;", "+<1=0>", "{x:0}"},
	{plainSchema, "@c;", "#1", `"on"`},
	{plainSchema, "@c;", "#2", `"off"`},
	{plainSchema, "[@c;", "[#2,#2,#1]", `["off","off","on"]`},
	{plainSchema, "[?@c;", "[#2]", ""},
	{plainSchema, "[?@c;", "[+#2,-]", `["off",null]`},
	{plainSchema, "?@c;", "-", "null"},
	{plainSchema, "?@c;", "+#1", `"on"`},
	{fullSchema, "@r;", "{1=1,2=0,3='a',4='',5=yes,6=no,10=<7=<5=<9=#3>>>,200=#20}", `{a:1,b:0,c:'a',d:'',e:yes,g:no,h:{z:{x:{x:"x"}}},i:"y"}`},
	{fullSchema, "@r;", "{10=<5=<11={}>>}", "{h:{x:{z:{}}}}"},
	{fullSchema, "@s;", "{1=[0],2=+0,3={3={9=[-]}},9=[-,+#3,-]}", `{l:[0],m:0,o:[null,"x",null],r:{r:{o:[null]}}}`},
	{fullSchema, "@o;", "{}", "{}"},
	{fullSchema, "@u;", "<5=<9=#3>>", `{x:{x:"x"}}`},
	// Fields in the order of names, where tags stand in another order, and where a name begins another one.
	{namesSchema, "@a;", "{1=0,2='x',3=yes,9=[-],10=+{},100=<1=1>}", "{a:yes,aa:{},ab:'x',abc:[null],b:0,z:{z:1}}"},
	{namesSchema, "@a;", "{1=0,3=yes}", "{a:yes,b:0}"},
	{namesSchema, "@a;", "{2='x',3=yes}", "{a:yes,ab:'x'}"},
	{namesSchema, "@a;", "{2='x',9=[]}", ""},
	{namesSchema, "@a;", "{2='x',9=[+0]}", "{ab:'x',abc:[0]}"},
	{namesSchema, "@a;", "{1=0,10=+{2='y',10=+{3=yes}}}", "{aa:{aa:{a:yes},ab:'y'},b:0}"},
	{namesSchema, "@a;", "{9=[-,+1,-]}", "{abc:[null,1,null]}"},
	{namesSchema, "@a;", "{100=<7={}>}", "{z:{x:{}}}"},
	{namesSchema, "@a;", "{100=<7={100=<8=#2>}>}", `{z:{x:{z:{w:"o"}}}}`},
	{namesSchema, "@e;", "#1", `"on"`},
	{namesSchema, "@e;", "#2", `"o"`},
	{namesSchema, "@e;", "#3", `"off"`},
	{namesSchema, "@u;", "<8=#3>", `{w:"off"}`},
	// A field of ?? and a kind that is not told.
	{namesSchema, "@s;", "{}", "{}"},
	{namesSchema, "@s;", "{1=1}", "{p:1}"},
	{namesSchema, "@s;", "{4={1=1}}", "{s:{p:1}}"},
	{"Ra=1:zzz:n,2:zz:n,3:z:n,4:y:n,5:aaa:n,6:aab:n,7:aa:n,8:b:n\n", "@a;", "{1=1,2=2,3=3,4=4,5=5,6=6,7=7,8=8}", "{aa:7,aaa:5,aab:6,b:8,y:4,z:3,zz:2,zzz:1}"},
	{"Ra=1:yes:f,2:no:f,3:n:?n,4:nul:?n\n", "@a;", "{1=yes,2=yes,3=+1,4=+0}", "{n:1,no:yes,nul:0,yes:yes}"},
}

// namesReadCase is a form that is read as a value, but is not the value's own.
type namesReadCase struct {
	schema, kind, form, text string
}

var namesReadCases = []namesReadCase{
	// Fields in any order.
	{plainSchema, "@a;", "{q:['hi'],p:7}", "{1=7,2=['hi']}"},
	{plainSchema, "@a;", "{r:{},q:[''],p:0}", "{1=0,2=[''],4=+{}}"},
	{plainSchema, "@a;", "{q:[''],r:{q:[''],p:0},p:0}", "{1=0,2=[''],4=+{1=0,2=['']}}"},
	{plainSchema, "@b;", "{y:{r:{},p:1}}", "<3={1=1,4=+{}}>"},
	{plainSchema, "[@a;", "[{},{q:[''],p:1}]", "[{},{1=1,2=['']}]"},
	{plainSchema, "?@a;", "{q:[''],p:1}", "+{1=1,2=['']}"},
	{namesSchema, "@a;", "{b:0,ab:'x',a:yes,abc:[null],aa:{},z:{z:1}}", "{1=0,2='x',3=yes,9=[-],10=+{},100=<1=1>}"},
	{namesSchema, "@a;", "{z:{z:1},abc:[null],aa:{},b:0,a:yes,ab:'x'}", "{1=0,2='x',3=yes,9=[-],10=+{},100=<1=1>}"},
	{namesSchema, "@a;", "{abc:[0],ab:'x'}", "{2='x',9=[+0]}"},
	// With their standing values, that are told or are the kind's, among others and alone, at each depth.
	{plainSchema, "@a;", "{p:5}", "{}"},
	{plainSchema, "@a;", "{q:[]}", "{}"},
	{plainSchema, "@a;", "{r:null}", "{}"},
	{plainSchema, "@a;", "{r:null,p:5}", "{}"},
	{plainSchema, "@a;", "{p:5,q:[],r:null}", "{}"},
	{plainSchema, "@a;", "{r:null,q:[],p:5}", "{}"},
	{plainSchema, "@a;", "{p:5,q:['a'],r:null}", "{2=['a']}"},
	{plainSchema, "@a;", "{r:{r:null,p:5},p:5}", "{4=+{}}"},
	{plainSchema, "[@a;", "[{p:5},{p:6,r:null},{}]", "[{},{1=6},{}]"},
	{plainSchema, "?@a;", "{p:5}", "+{}"},
	{plainSchema, "@b;", "{y:{p:5}}", "<3={}>"},
	{fullSchema, "@r;", `{a:0,b:7,c:'',d:'ab',e:no,g:yes,h:{x:{x:"x"}},i:"x"}`, "{}"},
	{fullSchema, "@r;", `{i:"x",h:{x:{x:"x"}},g:yes,e:no,d:'ab',c:'',b:7,a:0}`, "{}"},
	{fullSchema, "@r;", `{i:"y",h:{x:{x:"y"}},g:no,e:yes,d:'',c:'ab',b:0,a:7}`, "{1=7,2=0,3='ab',4='',5=yes,6=no,10=<5=<9=#20>>,200=#20}"},
	{fullSchema, "@s;", "{r:{}}", "{}"},
	{fullSchema, "@s;", `{l:[],m:null,r:{},o:[],u:{x:"x"}}`, "{}"},
	// A value that comes to be a standing one, since its own fields have theirs.
	{fullSchema, "@s;", "{r:{r:{r:{}}}}", "{}"},
	{fullSchema, "@s;", "{r:{m:null,r:{o:[],l:[]}}}", "{}"},
	{fullSchema, "@u;", "{x:{z:{b:7}}}", "<5=<11={}>>"},
	{namesSchema, "@a;", "{abc:[],aa:null,a:no,b:5,ab:'',z:{z:0}}", "{}"},
	{namesSchema, "@a;", "{z:{x:{b:5}}}", "{100=<7={}>}"},
	{namesSchema, "@s;", "{r:[]}", "{}"},
	{namesSchema, "@s;", "{s:{r:[]},p:0}", "{}"},
}

// notNamed are texts that are no forms with names of values of a kind.
var notNamed = []struct {
	schema, kind string
	forms        []string
}{
	{"", "n", []string{"", "00", "01", "0000000", "0999999", "-0", "-1", "+1", "1000000", "9999999", "18446744073709551617", "1.0", "1e1", " 1", "1 ", "1\n", "1,", "1,2", "a", "yes", "''", "'1'", "\"1\"", "[]", "[1]", "-", "null", "{}", "{1}", "\x00", "1\x00", "1null", "null1"}},
	{"", "t", []string{"", "'", "'''", "''''", "a", "'a", "a'", "'a'b'", "'a''", "''a'", "'a'a", " 'a'", "'a' ", "'A'", "'_'", "'a,b'", "','", "'a:b'", "':'", "'}'", "'a}'", "'{'", "']'", "'\"'", "\"a\"", "'-'", "'+'", "'='", "'\n'", "'\x00'", "'\xff'", "'é'", "'abcdefghijklm'", "'             '", "0", "yes", "null", "-", "[]", "{}", "'a','b'"}},
	{"", "f", []string{"", "y", "n", "nu", "ye", "yess", "noo", "Yes", "NO", " yes", "yes ", "no\n", "yesno", "true", "false", "0", "1", "'yes'", "\"yes\"", "-", "null", "nonull", "+yes", "[]", "{}"}},
	{"", "[n", []string{"", "[", "]", "[[", "[]]", "[[]", "[1", "1]", "1", "[,]", "[1,]", "[,1]", "[1,,2]", "[1;2]", "[1 2]", "[1, 2]", "[ 1]", "[1 ]", "[ ]", " []", "[] ", "[01]", "[1000000]", "[1]1", "[1]]", "[1],", "[-]", "[null]", "[1,null]", "[+1]", "['']", "{}", "{1}", "null", "-", "+[]", "0"}},
	{"", "[f", []string{"[yesno]", "[yes,]", "[n]", "[noo]", "[null]"}},
	{"", "[t", []string{"[''']", "['a'b]", "['a''b']", "['a,b']", "[']']", "['','", "['abcdefghijklm']", "[null]"}},
	{"", "[[n", []string{"[1]", "[[1]", "[1]]", "[[1],2]", "[null]", "[[null]]", "[[1][2]]", "[[1],]", "[]]"}},
	{"", "?n", []string{"", "-", "+", "+0", "+5", "00", "05", "1000000", "nul", "nulll", "null ", " null", "Null", "NULL", "null0", "0null", "nullnull", "null,", "'null'", "\"null\"", "nil", "none", "n", "yes", "''", "[]", "[null]", "{}"}},
	{"", "?t", []string{"", "-", "+''", "nul", "null''", "''null", "'null", "'abcdefghijklm'", "a", "0", "'A'"}},
	{"", "?f", []string{"", "-", "+no", "+yes", "n", "nu", "nul", "nonull", "nullno", "noyes", "0"}},
	{"", "?[n", []string{"", "-", "+[]", "[null]", "[-]", "[1,null]", "null[]", "[]null", "0"}},
	{"", "[?n", []string{"", "-", "null", "0", "[", "[null", "null]", "[-]", "[+0]", "[nul]", "[null,]", "[,null]", "[null,,null]", "[nullnull]", "[null0]", "[0null]", "[null 0]", "[null, 0]", "[[null]]", "[01]", "[null,01]", "[null,-]", "['null']", "[\"null\"]", "{null}"}},
	{"", "[[?n", []string{"[null]", "[null,[]]", "[[null]", "[[-]]"}},
	{"", "?[?n", []string{"[[null]]", "+[null]", "[-]"}},
	// A value of ?? and a kind has none.
	{"", "??n", []string{"", "null", "0", "5", "-", "+-", "++5", "+null", "nullnull", "[]", "[null]", "{}"}},
	{"", "???n", []string{"", "null", "0", "5", "-", "++-", "+++5"}},
	{"", "??t", []string{"null", "''", "'null'"}},
	{"", "???????????f", []string{"", "null", "yes", "-"}},
	{"", "[??n", []string{"", "null", "[null]", "[0]", "[null,null]", "[-]", "[", "[,]", "[] "}},
	{"", "[???n", []string{"[null]", "[0]"}},
	{"", "?[??n", []string{"[null]", "[0]", "[-]", "+[]", "-"}},
	{"", "[[??n", []string{"[null]", "[[null]]", "[[],[0]]"}},
	{plainSchema, "??@a;", []string{"null", "{}", "{p:7}"}},
	{plainSchema, "??@c;", []string{"null", `"on"`}},
	{plainSchema, "@a;", []string{
		"", "{", "}", "{{}}", "{}}", "{{}", "{},", "{} ", " {}", "{ }", "{,}", "[]", "<>", "-", "0", "null", "{null}", "{}{}", "{p:7}}", "{p:7", "p:7}", "p:7", "{p:7}{}", "{p:7}7", "p", "{p", "{p}", "{p:", "{p:}", "{:}", "{:7}", "{p::7}", "{p7}", "{7}", "{p=7}", "{1=7}", "{1:7}", "{2=['hi']}", "{4=-}",
		// A name that comes twice, with the same value, with another one, and with a standing one.
		"{p:7,p:7}", "{p:7,p:8}", "{p:5,p:5}", "{p:5,p:7}", "{p:7,p:5}", "{q:[''],q:['']}", "{q:[],q:[]}", "{r:null,r:null}", "{r:null,r:{}}", "{p:7,q:[''],p:7}", "{p:5,q:[],p:5}", "{r:{p:7,p:7}}", "{r:{},p:1,r:{}}",
		// Names that the type has not.
		"{x:7}", "{a:7}", "{pp:7}", "{P:7}", "{pq:7}", "{on:7}", "{p:7,x:7}", "{x:7,p:7}", "{x:null}", "{abcd:7}", "{p :7}", "{ p:7}", "{p: 7}", "{p:7 }", "{\"p\":7}", "{'p':7}", "{p,:7}", "{p\n:7}", "{r:{x:7}}", "{p:7,:7}", "{p:7,x}", "{p:7,p}", "{p:7,q}",
		"{p:7,}", "{,p:7}", "{p:7,,q:['']}", "{p:7;q:['']}", "{p:7, q:['']}", "{p:7 q:['']}", "{p:7q:['']}",
		"{p:'7'}", "{p:yes}", "{p:null}", "{p:07}", "{p:05}", "{p:1000000}", "{p:-1}", "{q:null}", "{q:[null]}", "{q:['A']}", "{q:''}", "{q:[1]}", "{q:['abcdefghijklm']}", "{q:[',']}", "{q:[':']}", "{q:['}']}", "{q:[''']}", "{r:-}", "{r:+{}}", "{r:0}", "{r:[]}", "{r:{}null}", "{r:nullnull}", "{r:nul}", "{r:{1=7}}", "{r:{r:-}}", "[p:7]", "<p:7>", "(p:7)", "\"p\"", `{"on"}`,
	}},
	{plainSchema, "@b;", []string{
		"", "{", "}", "{}", "{{}}", "{{x:0}}", "{x:0", "x:0}", "{x:0}}", "{x:0} ", " {x:0}", "{x:0,}", "{,x:0}", "{x:0,y:{}}", "{y:{},x:0}", "{x:0,x:0}", "{x:0}{y:{}}", "{z:0}", "{a:0}", "{p:0}", "{xx:0}", "{X:0}", "{:0}", "{x}", "{x:}", "{x::0}", "{x=0}", "{1=0}", "{1:0}", "<1=0>", "<x:0>", "[x:0]", "{ x:0}", "{x :0}", "{x: 0}", "{x:0 }", "{\"x\":0}",
		"{x:00}", "{x:1000000}", "{x:'a'}", "{x:{}}", "{x:null}", "{x:-}", "{y:0}", "{y:}", "{y:{}", "{y:null}", "{y:{}}}", "{y:{x:0}}", "{y:{p:7,p:7}}", "{y:<1=0>}", "0", "null", "-", "\"x\"", "x",
	}},
	{plainSchema, "@c;", []string{"", "\"", "\"\"", "on", "off", "\"on", "on\"", "'on'", "`on`", "\"on\"\"", "\"\"on\"", "\"on\" ", " \"on\"", "\" on\"", "\"on \"", "\"on\",", "\"on\"on", "\"on\"\"off\"", "\"o\"", "\"of\"", "\"onn\"", "\"offf\"", "\"ON\"", "\"On\"", "\"x\"", "\"p\"", "\"1\"", "\"#1\"", "#1", "#2", "1", "null", "\"null\"", "-", "{on}", "{\"on\"}", "[\"on\"]", "{}", "+\"on\"", "\"on\n\"", "\"on\x00\""}},
	{plainSchema, "?@a;", []string{"", "-", "+{}", "nul", "{", "{p:07}", "{x:7}", "null{}", "{}null", "[]"}},
	{plainSchema, "?@c;", []string{"", "-", "on", "\"null\"", "null\"on\"", "\"on\"null", "#1", "+#1"}},
	{plainSchema, "[@a;", []string{"[null]", "[{},]", "[{}{}]", "[{p:7]", "[p:7]", "[{},{x:7}]", "{}", "null"}},
	{plainSchema, "[@b;", []string{"[{}]", "[{x:0}", "{x:0}", "[{x:0},]", "[{x:0,y:{}}]", "[{z:0}]", "[null]", "[<1=0>]"}},
	{plainSchema, "[@c;", []string{"[on]", "[\"on\"\"off\"]", "[\"on\",off]", "[\"on,off\"]", "\"on\"", "[null]", "[\"on\",null]"}},
	{fullSchema, "@r;", []string{"{a:00}", "{e:null}", "{h:{}}", `{h:{x:{x:"x"},z:{x:{x:"x"}}}}`, `{h:{x:"x"}}`, `{i:x}`, `{i:"z"}`, `{i:#3}`, "{h:{x:{y:null}}}", "{h:{x:{y:5}}}", "{f:no}"}},
	{fullSchema, "@v;", []string{"{y:null}", "{y:0}", "{y:5}", "{y:-}", "{y:}", "{y:{}}", "{}"}},
	{fullSchema, "@s;", []string{"{u:{y:null}}", "{u:{y:0}}", "{u:{}}", "{o:null}", "{o:[\"z\"]}", "{m:-}", "{r:null}"}},
	{fullSchema, "@o;", []string{"", "null", "{x:0}", "{:}", "{:0}", "{,}", "{o:0}"}},
	{namesSchema, "@a;", []string{"{a:yes,a:yes}", "{aa:null,aa:{}}", "{ab:'x',a:yes,ab:'x'}", "{aba:0}", "{ac:0}", "{abcd:[]}", "{zz:0}", "{z:{y:null}}", "{z:{y:0}}", "{z:{z:1,w:\"on\"}}", "{z:{a:yes}}"}},
	{namesSchema, "@e;", []string{`"of"`, `"onn"`, `""`, `"a"`, `"offo"`, `o`, `on`}},
	{namesSchema, "@u;", []string{"{y:null}", "{y:0}", "{y:5}", "{w:on}", "{w:#1}", "{w:\"no\"}", "{z:1,x:{}}"}},
	// The standing value of a field of ?? has no form either.
	{namesSchema, "@s;", []string{"{q:null}", "{q:''}", "{q:'a'}", "{q:-}", "{p:1,q:null}", "{r:[null]}", "{r:[0]}", "{s:{q:null}}", "{s:null}"}},
}

// noNamed are values of a kind that have no form with names.
var noNamed = []struct {
	schema, kind string
	texts        []string
}{
	{"", "??n", []string{"-", "+-", "++0", "++5"}},
	{"", "???n", []string{"-", "+-", "++-", "+++5"}},
	{"", "??t", []string{"-", "+-", "++''", "++'null'"}},
	{"", "??[n", []string{"-", "+-", "++[]", "++[1]"}},
	{"", "???????????f", []string{"-", "+++++++++++yes"}},
	{"", "[??n", []string{"[-]", "[+-]", "[++0]", "[-,-]", "[++1,++2]"}},
	{"", "[[??n", []string{"[[-]]", "[[],[+-]]", "[[++0],[]]"}},
	{"", "?[??n", []string{"+[-]", "+[++1]"}},
	{"", "?[?[??n", []string{"+[-,+[-]]", "+[+[++0]]"}},
	{plainSchema, "??@a;", []string{"-", "+-", "++{}", "++{1=7}"}},
	{plainSchema, "??@b;", []string{"-", "++<1=0>"}},
	{plainSchema, "??@c;", []string{"-", "+-", "++#2"}},
	{plainSchema, "[??@c;", []string{"[-]", "[++#1]"}},
	{fullSchema, "@v;", []string{"<10=->", "<10=+->", "<10=++0>"}},
	{fullSchema, "@u;", []string{"<5=<10=->>", "<5=<10=++0>>", "<7=<5=<10=->>>"}},
	{fullSchema, "@r;", []string{"{10=<5=<10=->>}", "{1=1,10=<5=<10=++0>>,200=#20}"}},
	{fullSchema, "@s;", []string{"{99=<10=->}", "{1=[0],99=<10=++5>}", "{3={99=<10=->}}"}},
	{namesSchema, "@s;", []string{"{2=+-}", "{2=++''}", "{2=++'a'}", "{1=1,2=+-}", "{3=[-]}", "{3=[++0]}", "{3=[-,-]}", "{4={2=+-}}", "{4={1=1,3=[+-]}}"}},
	{namesSchema, "@u;", []string{"<2=->", "<2=+->", "<2=++0>"}},
	{namesSchema, "@a;", []string{"{100=<2=->}", "{1=0,10=+{100=<2=++1>}}"}},
	{namesSchema, "[@u;", []string{"[<1=0>,<2=->]"}},
	{namesSchema, "?@u;", []string{"+<2=->"}},
}

var (
	namedLook = regexp.MustCompile(`(?s)\A([a-z]{1,3}):(.*)\z`)
	quoteLook = regexp.MustCompile(`\A"([a-z]{1,3})"\z`)
)

// fieldNamed is the field of a name of a type.
func fieldNamed(def schemaType, name string) (schemaField, bool) {
	for _, f := range def.fields {
		if f.name == name {
			return f, true
		}
	}
	return schemaField{}, false
}

// slowNames tells by the definition, without the program, the form with names of a value, and whether it has one.
func slowNames(c schemaCase, kind string, s string) (string, bool) {
	switch {
	case strings.HasPrefix(kind, "??"):
		return "", false
	case plainValues[kind] != nil:
		return s, true
	case s == "-":
		return "null", true
	case kind[0] == '?':
		return slowNames(c, kind[1:], s[1:])
	}
	def, _ := typeOf(c, strings.Trim(kind, "@;"))
	if kind[0] == '@' && def.sort == "E" {
		tag, _ := strconv.Atoi(s[1:])
		f, _ := fieldOf(def, tag)
		return `"` + f.name + `"`, true
	}
	pieces, _ := slowPieces(s, s[:1], s[len(s)-1:])
	all := true
	for i, piece := range pieces {
		part, name := kind[1:], ""
		if kind[0] == '@' {
			m := toldLook.FindStringSubmatch(piece)
			tag, _ := strconv.Atoi(m[1])
			f, _ := fieldOf(def, tag)
			piece, part, name = m[2], f.kind, f.name+":"
		}
		form, ok := slowNames(c, part, piece)
		pieces[i] = name + form
		all = all && ok
	}
	if kind[0] == '[' {
		return "[" + strings.Join(pieces, ",") + "]", all
	}
	// The sign : is below all letters, so a name is ahead of those that begin with it.
	slices.Sort(pieces)
	return "{" + strings.Join(pieces, ",") + "}", all
}

// slowNamed tells by the definition, without the program, the value of a kind whose form a text is, but for the limits of values.
func slowNamed(c schemaCase, kind string, s string) (string, bool) {
	switch {
	case strings.HasPrefix(kind, "??"):
		return "", false
	case plainValues[kind] != nil:
		return s, true
	case kind[0] == '?' && s == "null":
		return "-", true
	case kind[0] == '?':
		text, ok := slowNamed(c, kind[1:], s)
		return "+" + text, ok
	case kind[0] == '[':
		pieces, ok := slowPieces(s, "[", "]")
		for i, piece := range pieces {
			text, isPart := slowNamed(c, kind[1:], piece)
			pieces[i] = text
			ok = ok && isPart
		}
		return "[" + strings.Join(pieces, ",") + "]", ok
	}
	def, _ := typeOf(c, kind[1:len(kind)-1])
	if def.sort == "E" {
		m := quoteLook.FindStringSubmatch(s)
		if m == nil {
			return "", false
		}
		f, found := fieldNamed(def, m[1])
		return "#" + strconv.Itoa(f.tag), found
	}
	return slowNamedFields(c, def, s)
}

// slowNamedFields is slowNamed of a record or a union.
func slowNamedFields(c schemaCase, def schemaType, s string) (string, bool) {
	pieces, ok := slowPieces(s, "{", "}")
	told, fields := map[int]string{}, map[int]string{}
	for _, piece := range pieces {
		m := namedLook.FindStringSubmatch(piece)
		if m == nil {
			return "", false
		}
		f, found := fieldNamed(def, m[1])
		if !found {
			return "", false
		}
		text, isPart := slowNamed(c, f.kind, m[2])
		ok = ok && isPart
		told[f.tag] = text
		if text != f.stand {
			fields[f.tag] = text
		}
	}
	ok = ok && len(told) == len(pieces)
	if def.sort == "R" {
		return slowRecord(fields), ok
	}
	text := slowRecord(told)
	return "<" + text[1:len(text)-1] + ">", ok && len(told) == 1
}

// slowNamesGet tells by the definition what NamesGet is.
func slowNamesGet(c schemaCase, kind string, s string) (string, bool) {
	k, ok := slowKind(kind)
	if _, found := typeOf(c, k.name); !ok || k.name != "" && !found || len(s) > 600 {
		return "", false
	}
	text, ok := slowNamed(c, kind, s)
	if _, isValue := slowValue(c, kind, text); !ok || !isValue {
		return "", false
	}
	return text, true
}

// slowNamesPut tells by the definition what NamesPut is.
func slowNamesPut(c schemaCase, kind string, s string) (string, bool) {
	if _, ok := slowValue(c, kind, s); !ok {
		return "", false
	}
	form, ok := slowNames(c, kind, s)
	if !ok {
		return "", false
	}
	return form, true
}

// slowTell tells by the definition what NamesTell is.
func slowTell(c schemaCase, kind string, s string) (string, bool) {
	told, ok := slowValue(c, kind, s)
	def, isRecord := recordOf(c, kind)
	if !ok || !isRecord {
		return "", false
	}
	var names []string
	for tag := range told.fields {
		f, _ := fieldOf(def, tag)
		names = append(names, f.name)
	}
	slices.Sort(names)
	return strings.Join(names, ","), true
}

func checkNamesPut(t *testing.T, schema string, kind string, s string, want string, wantOk bool) {
	t.Helper()
	if got, ok := impl.NamesPut(schema, kind, s); got != want || ok != wantOk {
		t.Errorf("NamesPut(%q, %q, %q) = %q, %v, want %q, %v", schema, kind, s, got, ok, want, wantOk)
	}
}

func checkNamesGet(t *testing.T, schema string, kind string, s string, want string, wantOk bool) {
	t.Helper()
	if got, ok := impl.NamesGet(schema, kind, s); got != want || ok != wantOk {
		t.Errorf("NamesGet(%q, %q, %q) = %q, %v, want %q, %v", schema, kind, s, got, ok, want, wantOk)
	}
}

func checkTell(t *testing.T, schema string, kind string, s string, want string, wantOk bool) {
	t.Helper()
	if got, ok := impl.NamesTell(schema, kind, s); got != want || ok != wantOk {
		t.Errorf("NamesTell(%q, %q, %q) = %q, %v, want %q, %v", schema, kind, s, got, ok, want, wantOk)
	}
}

// checkLikeSlowNames holds what is told of a text as a value against the definition, and reports whether it has a form with names.
func checkLikeSlowNames(t *testing.T, c schemaCase, kind string, s string) bool {
	t.Helper()
	form, ok := slowNamesPut(c, kind, s)
	checkNamesPut(t, c.text, kind, s, form, ok)
	names, isRecord := slowTell(c, kind, s)
	checkTell(t, c.text, kind, s, names, isRecord)
	return ok
}

// checkLikeSlowNamed holds what is read of a text as a form against the definition, and reports whether it is read.
func checkLikeSlowNamed(t *testing.T, c schemaCase, kind string, s string) bool {
	t.Helper()
	text, ok := slowNamesGet(c, kind, s)
	checkNamesGet(t, c.text, kind, s, text, ok)
	return ok
}

// someSigns are signs that an error may put into a form, or leave behind it.
const someSigns = "0159,:-+'\"[]{}<>=#anpuxy "

// named is a text that most often is a form with names of a value of a kind; fields stand in any order, some with their standing values.
func (m valueMaker) named(c schemaCase, kind string, left int) string {
	// Once in a while the sign of another form is told.
	if m.r.Intn(200) == 0 {
		return []string{"-", "null", "00", "+0", "''a", "{}"}[m.r.Intn(6)]
	}
	switch kind[0] {
	case '[':
		var items []string
		for range m.r.Intn(4) {
			if left > 0 {
				items = append(items, m.named(c, kind[1:], left-1))
			}
		}
		return "[" + strings.Join(items, ",") + "]"
	case '?':
		if left <= 0 || m.r.Intn(3) == 0 {
			return "null"
		}
		return m.named(c, kind[1:], left-1)
	case '@':
		def, _ := typeOf(c, kind[1:len(kind)-1])
		switch def.sort {
		case "E":
			return `"` + def.fields[m.r.Intn(len(def.fields))].name + `"`
		case "U":
			f := def.fields[m.r.Intn(len(def.fields))]
			if left <= 0 {
				f = def.fields[0]
			}
			return "{" + f.name + ":" + m.named(c, f.kind, left-1) + "}"
		}
		return m.namedRecord(c, def, left)
	}
	return m.value(c, kind, left)
}

// namedRecord is the form of a record.
func (m valueMaker) namedRecord(c schemaCase, def schemaType, left int) string {
	var fields []string
	for _, i := range m.r.Perm(len(def.fields)) {
		f := def.fields[i]
		stand, hasForm := slowNames(c, f.kind, f.stand)
		switch {
		case m.r.Intn(4) == 0 && hasForm:
			fields = append(fields, f.name+":"+stand)
		case left > 0 && m.r.Intn(3) > 0:
			fields = append(fields, f.name+":"+m.named(c, f.kind, left-1))
		}
	}
	// Once in a while a field comes twice, or has a name that the type has not.
	if len(fields) > 0 && m.r.Intn(40) == 0 {
		fields = append(fields, fields[m.r.Intn(len(fields))])
	}
	if m.r.Intn(80) == 0 {
		fields = append(fields, []string{"a", "b", "xyz"}[m.r.Intn(3)]+":0")
	}
	return "{" + strings.Join(fields, ",") + "}"
}

// madeNamed is a text with a schema and a kind of whose values it may be a form with names.
type madeNamed struct {
	c          schemaCase
	kind, form string
}

// someNamed are forms with names, written-out ones and made ones; most are read, and some are not.
func someNamed(t *testing.T, n int) []madeNamed {
	t.Helper()
	m := valueMaker{rand.New(rand.NewSource(7))}
	cases := m.schemas(t, 1000)
	plain := []schemaCase{schemaRead(t, plainSchema), schemaRead(t, fullSchema), schemaRead(t, deepSchema), schemaRead(t, namesSchema)}
	var forms []madeNamed
	for _, c := range namedCases {
		if c.form != "" {
			forms = append(forms, madeNamed{schemaRead(t, c.schema), c.kind, c.form})
		}
	}
	for _, c := range namesReadCases {
		forms = append(forms, madeNamed{schemaRead(t, c.schema), c.kind, c.form})
	}
	for range n {
		c := cases[m.r.Intn(len(cases))]
		if m.r.Intn(3) == 0 {
			c = plain[m.r.Intn(len(plain))]
		}
		kind := m.kind(c)
		forms = append(forms, madeNamed{c, kind, m.named(c, kind, 1+m.r.Intn(6))})
	}
	return forms
}

func TestNamesCases(t *testing.T) {
	for _, c := range namedCases {
		// A text without a form written beside it is no value.
		checkNamesPut(t, c.schema, c.kind, c.text, c.form, c.form != "")
		if c.form == "" {
			continue
		}
		checkNamesGet(t, c.schema, c.kind, c.form, c.text, true)
		read := schemaRead(t, c.schema)
		if !checkLikeSlowNames(t, read, c.kind, c.text) || !checkLikeSlowNamed(t, read, c.kind, c.form) {
			t.Errorf("the slow reading does not take %q as %q", c.form, c.text)
		}
	}
}

func TestNamesReadCases(t *testing.T) {
	for _, c := range namesReadCases {
		checkNamesGet(t, c.schema, c.kind, c.form, c.text, true)
		if !checkLikeSlowNamed(t, schemaRead(t, c.schema), c.kind, c.form) {
			t.Errorf("the slow reading does not take %q", c.form)
		}
	}
}

func TestNamesNotRead(t *testing.T) {
	for _, c := range notNamed {
		for _, s := range c.forms {
			checkNamesGet(t, c.schema, c.kind, s, "", false)
			if checkLikeSlowNamed(t, schemaRead(t, c.schema), c.kind, s) {
				t.Errorf("the slow reading takes %q as a form of %q of %q", s, c.kind, c.schema)
			}
		}
	}
}

func TestNamesOfValuesWithoutForm(t *testing.T) {
	for _, c := range noNamed {
		for _, s := range c.texts {
			if !impl.ValueOk(c.schema, c.kind, s) {
				t.Errorf("ValueOk(%q, %q, %q) = false", c.schema, c.kind, s)
			}
			checkNamesPut(t, c.schema, c.kind, s, "", false)
			if checkLikeSlowNames(t, schemaRead(t, c.schema), c.kind, s) {
				t.Errorf("the slow reading tells a form of %q", s)
			}
		}
	}
}

func TestNamesOfNoValue(t *testing.T) {
	for _, c := range notValues {
		for _, s := range c.texts {
			checkNamesPut(t, c.schema, c.kind, s, "", false)
			checkTell(t, c.schema, c.kind, s, "", false)
		}
	}
	// Texts that are just too long, or too deep, to be values.
	checkNamesPut(t, "", "[[t", longValue(400), longValue(400), true)
	checkNamesPut(t, "", "[[t", longValue(401), "", false)
	for n := range 20 {
		s := strings.Repeat("{1=", n) + "{5='a'}" + strings.Repeat("}", n)
		form, names := strings.Repeat("{x:", n)+"{v:'a'}"+strings.Repeat("}", n), "x"
		if n == 0 {
			names = "v"
		}
		if n+2 > 12 {
			form, names = "", ""
		}
		checkNamesPut(t, deepSchema, "@n;", s, form, form != "")
		checkTell(t, deepSchema, "@n;", s, names, form != "")
	}
}

func TestNamesOfNoSchema(t *testing.T) {
	check := func(schema string, kind string, s string) {
		checkNamesPut(t, schema, kind, s, "", false)
		checkNamesGet(t, schema, kind, s, "", false)
		checkTell(t, schema, kind, s, "", false)
	}
	for _, schema := range notSchemas {
		for _, kind := range []string{"n", "t", "f", "[n", "?n", "@a;", "@b;", "?@a;"} {
			for _, s := range []string{"", "0", "''", "no", "[]", "-", "null", "{}", "#1", "\"on\"", "<1=0>", "{1=8}", "{p:8}", "{x:0}"} {
				check(schema, kind, s)
			}
		}
	}
	for _, c := range namedCases {
		for _, schema := range []string{c.schema + "\n", c.schema + "x", c.schema + "Rzz=1:a:@yy;\n", strings.Repeat("Rzz=\n", 100)} {
			check(schema, c.kind, c.text)
			check(schema, c.kind, c.form)
		}
	}
}

func TestNamesOfNoKind(t *testing.T) {
	kinds := append([]string{"@x;", "[@x;", "?@x;", "??@xyz;", "@ab;", "[[[[[[[[[[[[n", "????????????f", strings.Repeat("[", 1<<16) + "n"}, notKinds...)
	for _, kind := range kinds {
		for _, s := range append([]string{"null", "[null]", "{p:7}", "{x:0}", "\"on\""}, someParts...) {
			checkNamesPut(t, plainSchema, kind, s, "", false)
			checkNamesGet(t, plainSchema, kind, s, "", false)
			checkTell(t, plainSchema, kind, s, "", false)
		}
	}
}

// TestNamesOfOtherKinds holds each of some texts against the definition for each of some kinds.
func TestNamesOfOtherKinds(t *testing.T) {
	forms := map[string]bool{"": true, "null": true, "[null]": true, "[null,null]": true, "[[null]]": true}
	for _, v := range namedCases {
		forms[v.form] = true
	}
	for _, v := range namesReadCases {
		forms[v.form] = true
	}
	for _, schema := range []string{"", plainSchema, fullSchema, deepSchema, namesSchema} {
		c := schemaRead(t, schema)
		kinds := []string{"n", "t", "f"}
		for _, def := range c.types {
			kinds = append(kinds, "@"+def.name+";")
		}
		for _, kind := range kinds {
			for _, signs := range []string{"", "[", "?", "[[", "[?", "?[", "??", "[??", "???"} {
				for form := range forms {
					checkLikeSlowNamed(t, c, signs+kind, form)
				}
				for _, v := range namedCases {
					checkLikeSlowNames(t, c, signs+kind, v.text)
				}
				for _, s := range someParts {
					checkLikeSlowNames(t, c, signs+kind, s)
					checkLikeSlowNamed(t, c, signs+kind, s)
				}
			}
		}
	}
}

func TestNamesShortForms(t *testing.T) {
	c := schemaRead(t, "Ra=1:b:n=5,2:a:?n,3:n:f\nUb=1:b:n,3:a:?f\nEc=1:n,2:nu\n")
	for _, look := range []struct {
		kind, signs string
		size        int
	}{
		{"n", "0159-n", 5}, {"?n", "nul0+-", 5}, {"?f", "nulo", 5}, {"[n", "[],015", 6}, {"t", "'a :,}A", 5}, {"@a;", "{}:ab,5", 6}, {"@b;", "{}:ab,5", 6}, {"@c;", `"nu#1 `, 5}, {"??n", "nul0+-", 4},
	} {
		reads := 0
		eachText("", look.signs, look.size, func(s string) {
			if checkLikeSlowNamed(t, c, look.kind, s) {
				reads++
			}
		})
		if want := look.kind != "??n"; (reads > 0) != want {
			t.Errorf("%d forms of %q are read as values of %q", reads, look.signs, look.kind)
		}
	}
	// Rows of whole words, so that null stands within lists, within records, and within what may be there.
	words := map[byte]string{'N': "null", 'B': "b:", 'A': "a:", 'F': "n:no"}
	for _, look := range []struct {
		kind, signs string
		size        int
	}{
		{"[?n", "[],N0", 6}, {"?[?n", "[],N0", 6}, {"[?[?n", "[],N0", 7}, {"[??n", "[],N0", 5}, {"@a;", "{},NAB5", 6}, {"@a;", "{},NAF", 7}, {"[?@a;", "[]{},NA", 6}, {"@b;", "{},NAB", 6}, {"?@b;", "{},NA5", 6},
	} {
		reads := 0
		eachText("", look.signs, look.size, func(s string) {
			for sign, word := range words {
				s = strings.ReplaceAll(s, string(sign), word)
			}
			if checkLikeSlowNamed(t, c, look.kind, s) {
				reads++
			}
		})
		if reads == 0 {
			t.Errorf("no form of %q is read as a value of %q", look.signs, look.kind)
		}
	}
}

func TestNamesChangedByOneByte(t *testing.T) {
	check := func(c schemaCase, kind string, s string) {
		reads := 0
		changedTexts(s, someSigns, func(s string) {
			if checkLikeSlowNamed(t, c, kind, s) {
				reads++
			}
		})
		// The form is among its own beginnings.
		if reads == 0 {
			t.Errorf("no changed form of %q is read as a value of %q", s, kind)
		}
	}
	for _, c := range namedCases {
		if c.form != "" {
			check(schemaRead(t, c.schema), c.kind, c.form)
		}
	}
	for _, c := range namesReadCases {
		check(schemaRead(t, c.schema), c.kind, c.form)
	}
}

func TestNamesAnyByte(t *testing.T) {
	for b := range 256 {
		x := string([]byte{byte(b)})
		for _, v := range namedCases {
			c := schemaRead(t, v.schema)
			checkLikeSlowNamed(t, c, v.kind, x+v.form)
			checkLikeSlowNamed(t, c, v.kind, v.form+x)
			checkLikeSlowNamed(t, c, v.kind, v.form[:len(v.form)/2]+x+v.form[len(v.form)/2:])
		}
		isText := b >= 'a' && b <= 'z' || b >= '0' && b <= '9' || b == ' '
		for _, look := range []struct{ kind, form string }{
			{"t", "'" + x + "'"}, {"?t", "'a" + x + "'"}, {"[t", "['" + x + "a']"}, {"@a;", "{q:['abcdefghijk" + x + "']}"},
		} {
			if _, ok := impl.NamesGet(plainSchema, look.kind, look.form); ok != isText {
				t.Errorf("NamesGet(%q, %q) is read: %v", look.kind, look.form, ok)
			}
		}
	}
}

func TestNamesMade(t *testing.T) {
	m := valueMaker{rand.New(rand.NewSource(8))}
	reads, others := 0, 0
	check := func(c schemaCase, kind string, s string) {
		if checkLikeSlowNamed(t, c, kind, s) {
			reads++
		} else {
			others++
		}
	}
	for _, f := range someNamed(t, 12000) {
		check(f.c, f.kind, f.form)
		at := m.r.Intn(len(f.form))
		sign := string(someSigns[m.r.Intn(len(someSigns))])
		check(f.c, f.kind, f.form[:at]+sign+f.form[at+1:])
		check(f.c, f.kind, f.form[:at]+f.form[at+1:])
		check(f.c, f.kind, f.form[:at]+sign+f.form[at:])
		check(f.c, f.kind, f.form+sign)
		if len(f.c.types) > 0 {
			check(f.c, m.kind(f.c), f.form)
		}
	}
	if reads < 5000 || others < 5000 {
		t.Errorf("%d forms are read, %d are not", reads, others)
	}
	named, without := 0, 0
	for _, v := range someValues(t, 12000) {
		if checkLikeSlowNames(t, v.c, v.kind, v.text) {
			named++
		} else {
			without++
		}
	}
	if named < 2000 || without < 300 {
		t.Errorf("%d values have forms with names, %d have none", named, without)
	}
}

// TestNamesFieldsInAnyOrder has all orders of the fields of a record, with and without those that have their standing value.
func TestNamesFieldsInAnyOrder(t *testing.T) {
	c := schemaRead(t, namesSchema)
	told := map[byte]string{'a': "a:yes", 'b': "aa:{}", 'c': "ab:'x'", 'd': "abc:[null]", 'e': "b:5", 'f': "z:{z:0}"}
	reads := 0
	eachText("", "abcdef", 5, func(row string) {
		var fields []string
		for i := range len(row) {
			fields = append(fields, told[row[i]])
		}
		form := "{" + strings.Join(fields, ",") + "}"
		if checkLikeSlowNamed(t, c, "@a;", form) {
			reads++
		}
	})
	// So many rows of up to five of six fields have none twice.
	if want := 1 + 6 + 6*5 + 6*5*4 + 6*5*4*3 + 6*5*4*3*2; reads != want {
		t.Errorf("%d rows of fields are read, want %d", reads, want)
	}
	checkNamesGet(t, namesSchema, "@a;", "{z:{z:0},abc:[null],b:5,aa:{},a:yes,ab:'x'}", "{2='x',3=yes,9=[-],10=+{}}", true)
}

func TestNamesNumbers(t *testing.T) {
	for n := 0; n <= 999999; n = n*5/4 + 1 {
		s := strconv.Itoa(n)
		checkNamesPut(t, "", "n", s, s, true)
		checkNamesGet(t, "", "n", s, s, true)
		checkNamesGet(t, "", "?n", s, "+"+s, true)
		checkNamesGet(t, "", "n", "0"+s, "", false)
		checkNamesGet(t, "", "?n", "00"+s, "", false)
		checkNamesGet(t, "", "[?n", "[null,0"+s+"]", "", false)
		checkNamesGet(t, plainSchema, "@a;", "{p:0"+s+"}", "", false)
		checkNamesGet(t, plainSchema, "@b;", "{x:0"+s+"}", "", false)
	}
	for _, s := range []string{"1000000", "1000001", "9999999", "4294967296", "18446744073709551616", "18446744073709551621", strings.Repeat("9", 500)} {
		checkNamesGet(t, "", "n", s, "", false)
		checkNamesGet(t, "", "?n", s, "", false)
		checkNamesGet(t, "", "[n", "["+s+"]", "", false)
		checkNamesGet(t, plainSchema, "@a;", "{p:"+s+"}", "", false)
		checkNamesGet(t, plainSchema, "@b;", "{x:"+s+"}", "", false)
	}
}

func TestNamesTextTop(t *testing.T) {
	c := schemaRead(t, "Ra=1:x:t,2:y:?t\n")
	for size := range 40 {
		for _, sign := range []string{"a", "9", " "} {
			text := "'" + strings.Repeat(sign, size) + "'"
			for kind, form := range map[string]string{"t": text, "?t": text, "[t": "['a'," + text + "]", "[?t": "[null," + text + "]", "@a;": "{y:" + text + ",x:" + text + "}"} {
				if isRead := checkLikeSlowNamed(t, c, kind, form); isRead != (size <= 12) {
					t.Errorf("a text of %d signs is read as a value of %q: %v", size, kind, isRead)
				}
			}
		}
	}
}

func TestNamesItemTop(t *testing.T) {
	c := schemaRead(t, plainSchema)
	for kind, item := range map[string]string{"n": "5", "t": "''", "f": "no", "?n": "null", "?t": "'a'", "[n": "[]", "@a;": "{}", "?@a;": "null", "@b;": "{x:0}", "@c;": `"on"`} {
		for n := range 60 {
			s := "[" + strings.TrimSuffix(strings.Repeat(item+",", n), ",") + "]"
			if isRead := checkLikeSlowNamed(t, c, "["+kind, s); isRead != (n <= 20) {
				t.Errorf("%q with %d items is read: %v", s, n, isRead)
			}
			if isRead := checkLikeSlowNamed(t, c, "?[["+kind, "["+s+",[]]"); isRead != (n <= 20) {
				t.Errorf("a list in a list, %q with %d items, is read: %v", s, n, isRead)
			}
		}
	}
}

// nullsForm is a form of [[?t with as many bytes as are asked for, from 516 to 610.
func nullsForm(size int) string {
	row := "[" + strings.TrimSuffix(strings.Repeat("null,", 20), ",") + "]"
	last := strings.Repeat("null,", (size-516)/5) + "'" + strings.Repeat("z", (size-516)%5) + "'"
	return "[" + strings.Repeat(row+",", 5) + "[" + last + "]]"
}

func TestNamesBytesTop(t *testing.T) {
	c := schemaRead(t, "Ra=1:x:[[?t,2:y:n\n")
	for size := 516; size <= 610; size++ {
		s := nullsForm(size)
		if isRead := checkLikeSlowNamed(t, c, "[[?t", s); len(s) != size || isRead != (size <= 600) {
			t.Errorf("a form of %d bytes, %d wanted, is read: %v", len(s), size, isRead)
		}
		if isRead := checkLikeSlowNamed(t, c, "@a;", "{x:"+s+"}"); isRead != (size <= 596) {
			t.Errorf("a form of %d bytes is read: %v", size+4, isRead)
		}
		// A standing value counts for the form, though not for the value.
		if isRead := checkLikeSlowNamed(t, c, "@a;", "{y:0,x:"+s+"}"); isRead != (size <= 592) {
			t.Errorf("a form of %d bytes is read: %v", size+8, isRead)
		}
		// NamesPut tells forms of any length.
		text := strings.ReplaceAll(strings.ReplaceAll(s, "null", "-"), "'z", "+'z")
		text = strings.ReplaceAll(text, "''", "+''")
		checkNamesPut(t, "", "[[?t", text, s, true)
	}
	longest := "[" + strings.TrimSuffix(strings.Repeat("["+strings.TrimSuffix(strings.Repeat("-,", 20), ",")+"],", 9), ",") + "]"
	form := strings.ReplaceAll(longest, "-", "null")
	checkNamesPut(t, "", "[[?n", longest, form, true)
	checkNamesGet(t, "", "[[?n", form, "", false)
}

func TestNamesValueTop(t *testing.T) {
	c := schemaRead(t, "Ra=1:x:[[t,2:abc:n,30:y:t='a',31:z:?n,200:w:f\nRb=200:x:[[t\n")
	for size := 390; size <= 402; size++ {
		s := longValue(size)
		if isRead := checkLikeSlowNamed(t, c, "[[t", s); isRead != (size <= 400) {
			t.Errorf("a value of %d bytes is read: %v", size, isRead)
		}
		if isRead := checkLikeSlowNamed(t, c, "?[[t", s); isRead != (size <= 399) {
			t.Errorf("a value of %d bytes is read: %v", size+1, isRead)
		}
		for more, fits := range map[string]int{
			"": 396, ",abc:0": 396, ",y:'a',z:null,w:no,abc:0": 396, ",abc:7": 392, ",y:''": 390, ",z:5": 390,
		} {
			if isRead := checkLikeSlowNamed(t, c, "@a;", "{x:"+s+more+"}"); isRead != (size <= fits) {
				t.Errorf("a value with %d bytes in a field, with %q behind it, is read: %v", size, more, isRead)
			}
		}
		// A form that is within ValueTop while its value is not.
		if isRead := checkLikeSlowNamed(t, c, "@b;", "{x:"+s+"}"); isRead != (size <= 394) {
			t.Errorf("a value of %d bytes is read: %v", size+6, isRead)
		}
	}
	// Forms that are longer than the value, and ones that are shorter.
	for _, n := range []int{1, 10, 19} {
		nulls := "[" + strings.TrimSuffix(strings.Repeat("null,", n), ",") + "]"
		checkNamesGet(t, "", "[?n", nulls, strings.ReplaceAll(nulls, "null", "-"), true)
		flags := "[" + strings.TrimSuffix(strings.Repeat("no,", n), ",") + "]"
		checkNamesGet(t, "", "[?f", flags, strings.ReplaceAll(flags, "no", "+no"), true)
	}
	for rows := range 12 {
		for last := range 21 {
			row := "[" + strings.TrimSuffix(strings.Repeat("9,", 20), ",") + "],"
			s := "[" + strings.Repeat(row, rows) + "[" + strings.TrimSuffix(strings.Repeat("7,", last), ",") + "]]"
			checkLikeSlowNamed(t, c, "[[?n", s)
		}
	}
}

func TestNamesDeepTop(t *testing.T) {
	c := schemaRead(t, deepSchema)
	repeat := strings.Repeat
	for n := range 110 {
		for _, look := range []struct {
			kind, form string
			deep       int
		}{
			{"@n;", repeat("{x:", n) + "{v:'a'}" + repeat("}", n), n + 2},
			{"@n;", repeat("{y:", n) + "{}" + repeat("}", n), 2*n + 1},
			{"@n;", repeat("{z:[", n) + "{v:'a'}" + repeat("]}", n), 2*n + 2},
			{"@n;", repeat("{w:{z:", n) + "{}" + repeat("}}", n), 2*n + 1},
			{"@d;", repeat("{y:", n) + "{x:'a'}" + repeat("}", n), n + 2},
			{"[?@d;", "[null," + repeat("{y:", n) + "{x:'a'}" + repeat("}", n) + ",null]", n + 4},
			{"@n;", "{x:" + repeat("{x:", n) + "{}" + repeat("}", n) + ",v:'a'}", 2},
			// What comes to be its standing value is not in the value, so that its depth does not count.
			{"@n;", repeat("{x:", n) + "{}" + repeat("}", n), 1},
			{"@n;", repeat("{x:", n) + "{v:''}" + repeat("}", n), 1},
			{"@n;", repeat("{x:", n) + "{y:null}" + repeat("}", n), 1},
			{"@n;", repeat("{x:", n) + "{w:{x:''}}" + repeat("}", n), 1},
		} {
			if isRead := checkLikeSlowNamed(t, c, look.kind, look.form); isRead != (look.deep <= 12 && len(look.form) <= 600) {
				t.Errorf("NamesGet(%q, %q), from which a value %d deep would come, is read: %v", look.kind, look.form, look.deep, isRead)
			}
		}
	}
	for n := range 15 {
		checkLikeSlowNamed(t, c, "[[[[[[[[[[[n", repeat("[", n)+"5"+repeat("]", n))
		checkLikeSlowNamed(t, c, "@n;", "{u:"+repeat("[", n)+repeat("]", n)+"}")
		checkLikeSlowNamed(t, c, "@n;", "{u:"+repeat("[", n)+"5"+repeat("]", n)+"}")
	}
	checkNamesGet(t, deepSchema, "@n;", "{u:[[[[[[[[[[[5]]]]]]]]]]]}", "", false)
	checkNamesGet(t, deepSchema, "@n;", "{u:[[[[[[[[[[[]]]]]]]]]]]}", "{6=[[[[[[[[[[[]]]]]]]]]]]}", true)
}

func TestNamesVeryLong(t *testing.T) {
	many := 1 << 20
	repeat := strings.Repeat
	for _, look := range []struct{ kind, text string }{
		{"n", repeat("0", many)}, {"n", repeat("1", many)}, {"t", "'" + repeat("a", many) + "'"}, {"f", repeat("no", many)}, {"[n", repeat("[", many)}, {"[n", "[" + repeat("1,", many) + "1]"}, {"?n", repeat("null", many)}, {"[?n", "[" + repeat("null,", many) + "null]"},
		{"@n;", repeat("{x:", many)}, {"@n;", repeat("{x:", many) + "{}" + repeat("}", many)}, {"@n;", repeat("{z:[", many) + repeat("]}", many)}, {"@d;", repeat("{y:", many)}, {"@n;", repeat("x:", many)}, {"@n;", repeat("\"", many)}, {"@n;", "{" + repeat("v:'',", many) + "}"}, {"@n;", repeat("{1=", many)},
	} {
		if s, ok := impl.NamesGet(deepSchema, look.kind, look.text); s != "" || ok {
			t.Errorf("a text of %d bytes that begins with %q is read", len(look.text), look.text[:10])
		}
		if s, ok := impl.NamesPut(deepSchema, look.kind, look.text); s != "" || ok {
			t.Errorf("a text of %d bytes that begins with %q has a form", len(look.text), look.text[:10])
		}
		if s, ok := impl.NamesTell(deepSchema, look.kind, look.text); s != "" || ok {
			t.Errorf("a text of %d bytes that begins with %q has names", len(look.text), look.text[:10])
		}
	}
}

func TestNamesTellCases(t *testing.T) {
	for _, c := range []struct{ schema, kind, text, names string }{
		{plainSchema, "@a;", "{}", ""},
		{plainSchema, "@a;", "{1=7}", "p"},
		{plainSchema, "@a;", "{1=7,2=['hi',''],4=+{}}", "p,q,r"},
		{plainSchema, "@a;", "{4=+{1=7,2=['']}}", "r"},
		{fullSchema, "@r;", "{1=1,2=0,3='a',4='',5=yes,6=no,10=<7=<5=<9=#3>>>,200=#20}", "a,b,c,d,e,g,h,i"},
		{fullSchema, "@o;", "{}", ""},
		{fullSchema, "@s;", "{1=[0],9=[-],99=<10=->}", "l,o,u"},
		{namesSchema, "@a;", "{1=0,2='x',3=yes,9=[-],10=+{},100=<1=1>}", "a,aa,ab,abc,b,z"},
		{namesSchema, "@a;", "{1=0,3=yes}", "a,b"},
		{namesSchema, "@a;", "{1=0}", "b"},
		{namesSchema, "@a;", "{2='x',9=[-]}", "ab,abc"},
		// Names of values that have no form with names.
		{namesSchema, "@s;", "{2=+-}", "q"},
		{namesSchema, "@s;", "{1=1,2=++'a',3=[-],4={1=1}}", "p,q,r,s"},
		{namesSchema, "@a;", "{1=0,100=<2=->}", "b,z"},
	} {
		checkTell(t, c.schema, c.kind, c.text, c.names, true)
		checkLikeSlowNames(t, schemaRead(t, c.schema), c.kind, c.text)
	}
}

func TestNamesTellOfNoRecord(t *testing.T) {
	for _, c := range []struct{ kind, text string }{
		{"n", "0"}, {"t", "''"}, {"f", "no"}, {"[n", "[]"}, {"?n", "-"}, {"[@a;", "[{1=7}]"}, {"[@a;", "[]"}, {"?@a;", "+{1=7}"}, {"?@a;", "-"}, {"??@a;", "++{1=7}"}, {"@b;", "<1=5>"}, {"@b;", "<3={1=7}>"}, {"@c;", "#1"},
	} {
		if !impl.ValueOk(plainSchema, c.kind, c.text) {
			t.Errorf("ValueOk(%q, %q) = false", c.kind, c.text)
		}
		checkTell(t, plainSchema, c.kind, c.text, "", false)
	}
	// A form is no value.
	for _, form := range []string{"{p:7}", "{p:5}", "{q:['']}", "{r:{}}", "null", ""} {
		checkTell(t, plainSchema, "@a;", form, "", false)
	}
}

func TestPromise33NamesGetOfNamesPut(t *testing.T) {
	named, tooLong := 0, 0
	check := func(c schemaCase, kind string, text string) {
		form, ok := impl.NamesPut(c.text, kind, text)
		if want, wantOk := slowNamesPut(c, kind, text); form != want || ok != wantOk {
			t.Errorf("NamesPut(%q, %q, %q) = %q, %v, want %q, %v", c.text, kind, text, form, ok, want, wantOk)
		}
		if !ok {
			return
		}
		if len(form) > 600 {
			tooLong++
			checkNamesGet(t, c.text, kind, form, "", false)
			return
		}
		named++
		checkNamesGet(t, c.text, kind, form, text, true)
	}
	for _, v := range someValues(t, 8000) {
		check(v.c, v.kind, v.text)
	}
	// Values of many bytes whose forms have many more.
	for rows := range 10 {
		for last := range 20 {
			s := strings.Repeat("["+strings.TrimSuffix(strings.Repeat("-,", 20), ",")+"],", rows)
			check(schemaCase{}, "[[?n", "["+s+"["+strings.TrimSuffix(strings.Repeat("-,", last), ",")+"]]")
		}
	}
	if named < 2000 || tooLong < 20 {
		t.Errorf("%d forms are short enough, %d are too long", named, tooLong)
	}
}

func TestPromise34NamesGetIsAValue(t *testing.T) {
	reads, others := 0, 0
	for _, f := range someNamed(t, 10000) {
		text, ok := impl.NamesGet(f.c.text, f.kind, f.form)
		if !ok {
			continue
		}
		reads++
		if !impl.ValueOk(f.c.text, f.kind, text) {
			t.Errorf("NamesGet(%q, %q, %q) = %q, which is no value", f.c.text, f.kind, f.form, text)
		}
		form, ok := impl.NamesPut(f.c.text, f.kind, text)
		if !ok || len(form) > len(f.form) {
			t.Errorf("NamesPut(%q, %q, %q) = %q, %v, of what was read of %q", f.c.text, f.kind, text, form, ok, f.form)
		}
		checkNamesGet(t, f.c.text, f.kind, form, text, true)
		if form != f.form {
			others++
		}
	}
	if reads < 4000 || others < 1000 {
		t.Errorf("only %d forms are read, %d of which are not the value's own", reads, others)
	}
}

func TestPromise35NamesAscend(t *testing.T) {
	m := valueMaker{rand.New(rand.NewSource(35))}
	c := schemaRead(t, namesSchema)
	records := someRecords(t, 8000)
	for range 1000 {
		for _, kind := range []string{"@a;", "@s;"} {
			text := m.value(c, kind, 1+m.r.Intn(4))
			if told, ok := slowValue(c, kind, text); ok {
				records = append(records, madeValue{c, kind, text, told})
			}
		}
	}
	many := 0
	for _, v := range records {
		told, ok := impl.NamesTell(v.c.text, v.kind, v.text)
		if !ok {
			t.Errorf("NamesTell(%q, %q, %q) fails", v.c.text, v.kind, v.text)
		}
		var names []string
		if told != "" {
			names = strings.Split(told, ",")
		}
		def, _ := recordOf(v.c, v.kind)
		tags := map[int]string{}
		for i, name := range names {
			if i > 0 && names[i-1] >= name {
				t.Errorf("NamesTell(%q, %q, %q) = %q, which does not ascend", v.c.text, v.kind, v.text, told)
			}
			f, _ := fieldNamed(def, name)
			tags[f.tag] = v.told.fields[f.tag]
		}
		if !maps.Equal(tags, v.told.fields) {
			t.Errorf("NamesTell(%q, %q, %q) = %q, which are not the fields that are told", v.c.text, v.kind, v.text, told)
		}
		if len(names) > 1 {
			many++
		}
	}
	if many < 1000 {
		t.Errorf("only %d records tell more than one field", many)
	}
}

func TestPromise36TwoFieldsTurned(t *testing.T) {
	kinds := map[string][]string{"n": {"0", "7", "999999"}, "t": {"''", "'a b'", "'null'", "'abcdefghijkl'"}, "f": {"no", "yes"}}
	for _, names := range [][2]string{{"a", "b"}, {"b", "a"}, {"a", "ab"}, {"ab", "a"}, {"abc", "z"}, {"no", "yes"}} {
		for first, ones := range kinds {
			for second, others := range kinds {
				schema := "Rr=3:" + names[0] + ":" + first + ",20:" + names[1] + ":" + second + "\n"
				c := schemaRead(t, schema)
				for _, one := range ones {
					for _, other := range others {
						fields := map[int]string{3: one, 20: other}
						maps.DeleteFunc(fields, func(tag int, part string) bool {
							f, _ := fieldOf(c.types[0], tag)
							return part == f.stand
						})
						text := slowRecord(fields)
						form, ok := impl.NamesPut(schema, "@r;", text)
						checkNamesGet(t, schema, "@r;", form, text, ok)
						x, y := names[0]+":"+one, names[1]+":"+other
						checkNamesGet(t, schema, "@r;", "{"+x+","+y+"}", text, true)
						checkNamesGet(t, schema, "@r;", "{"+y+","+x+"}", text, true)
						checkNamesGet(t, schema, "[@r;", "[{"+y+","+x+"},{"+x+","+y+"}]", "["+text+","+text+"]", true)
						if len(fields) == 2 && form != "{"+min(x, y)+","+max(x, y)+"}" {
							t.Errorf("NamesPut(%q, @r;, %q) = %q", schema, text, form)
						}
					}
				}
			}
		}
	}
}
