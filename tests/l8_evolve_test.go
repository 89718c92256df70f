package tests

import (
	"math/rand"
	"slices"
	"strconv"
	"strings"
	"testing"

	"loop.example/wireforms/impl"
)

// evolveCase is a newer kind and an older one, whether the newer one reads the older one, and whether it is so the other way round.
type evolveCase struct {
	newer, kind, older, old string
	there, back             bool
}

// The ends of schemas, with a record that has one field.
const (
	leafNumber = "Rl=1:v:n\n"
	leafText   = "Rl=1:v:t\n"
)

var evolveCases = []evolveCase{
	// Plain kinds, and signs ahead that are the same, others, more, and in another order.
	{"", "n", "", "n", true, true},
	{"", "t", "", "t", true, true},
	{"", "f", "", "f", true, true},
	{"", "n", "", "t", false, false},
	{"", "t", "", "f", false, false},
	{"", "f", "", "n", false, false},
	{"", "[n", "", "[n", true, true},
	{"", "?[[t", "", "?[[t", true, true},
	{"", "[[[[[[[[[[[n", "", "[[[[[[[[[[[n", true, true},
	{"", "[n", "", "n", false, false},
	{"", "?n", "", "n", false, false},
	{"", "?n", "", "[n", false, false},
	{"", "[[n", "", "[n", false, false},
	{"", "[?n", "", "?[n", false, false},
	{"", "[?n", "", "[[n", false, false},
	{"", "[n", "", "[t", false, false},
	{"", "[[[[[[[[[[[n", "", "[[[[[[[[[[[t", false, false},
	{"", "[[[[[[[[[[[n", "", "[[[[[[[[[[?n", false, false},
	{plainSchema, "n", namesSchema, "n", true, true},
	{plainSchema, "?@a;", plainSchema, "?@a;", true, true},
	{plainSchema, "[?@b;", plainSchema, "[?@b;", true, true},
	{plainSchema, "?@a;", plainSchema, "@a;", false, false},
	{plainSchema, "[@a;", plainSchema, "@a;", false, false},
	{plainSchema, "[@a;", plainSchema, "?@a;", false, false},
	{plainSchema, "[?@a;", plainSchema, "?[@a;", false, false},
	{plainSchema, "[[@c;", plainSchema, "[@c;", false, false},
	// A plain kind and a type.
	{plainSchema, "@a;", plainSchema, "n", false, false},
	{plainSchema, "@c;", "", "n", false, false},
	{plainSchema, "[@b;", "", "[t", false, false},
	{"Rn=\n", "@n;", "Rn=\n", "n", false, false},
	{"Rt=1:t:@t;\n", "?@t;", "Rt=1:t:@t;\n", "?t", false, false},
	// Types whose letters are not the same.
	{"Ra=1:x:n\n", "@a;", "Ua=1:x:n\n", "@a;", false, false},
	{"Ra=\n", "@a;", "Ea=1:x\n", "@a;", false, false},
	{"Ua=1:x:n\n", "@a;", "Ea=1:x\n", "@a;", false, false},
	{plainSchema, "@a;", plainSchema, "@b;", false, false},
	{plainSchema, "[@b;", plainSchema, "[@c;", false, false},
	{plainSchema, "@c;", plainSchema, "@a;", false, false},
	{"Ra=1:x:[@b;\nRb=\n", "@a;", "Ra=1:x:[@b;\nEb=1:x\n", "@a;", false, false},
	// Types and fields of other names, of which only tags count.
	{"Ra=1:x:n,2:y:t\n", "@a;", "Rb=1:p:n,2:q:t\n", "@b;", true, true},
	{"Ra=1:x:n,2:y:t\n", "@a;", "Ra=1:y:n,2:x:t\n", "@a;", true, true},
	{"Ra=1:x:n,2:y:t\n", "@a;", "Ra=1:y:t,2:x:n\n", "@a;", false, false},
	{"Ra=1:x:n\n", "@a;", "Ra=2:x:n\n", "@a;", true, true},
	{"Ra=1:x:n\n", "@a;", "Ra=2:x:t\n", "@a;", true, true},
	{"Ea=1:x,2:y\n", "@a;", "Ezz=1:y,2:x\n", "@zz;", true, true},
	{"Ua=1:x:n,2:y:t\n", "@a;", "Uzz=1:y:n,2:x:t\n", "@zz;", true, true},
	{"Ua=1:x:n,2:y:t\n", "@a;", "Ua=1:y:t,2:x:n\n", "@a;", false, false},
	{"Ra=1:x:@b;\nRb=1:x:n\n", "@a;", "Ra=1:x:@c;\nRb=1:x:t\nRc=1:x:n\n", "@a;", true, true},
	{"Ra=1:x:@b;\nRb=1:x:n\n", "@a;", "Rb=1:x:@a;\nRa=1:x:n\n", "@b;", true, true},
	{"Ra=1:x:@b;\nRb=1:x:n\n", "@a;", "Rb=1:x:@a;\nRa=1:x:n\n", "@a;", false, false},
	{"Ra=1:x:n\nRb=1:x:t\n", "@a;", "Ra=1:x:t\nRb=1:x:n\n", "@b;", true, true},
	{"Ra=1:x:n\nRb=1:x:t\n", "@a;", "Ra=1:x:t\nRb=1:x:n\n", "@a;", false, false},
	// An enumeration that has more tags, or one less, at each place; its first tag does not matter by itself.
	{"Ea=1:x\n", "@a;", "Ea=1:x\n", "@a;", true, true},
	{"Ea=1:x,2:y\n", "@a;", "Ea=1:x\n", "@a;", true, false},
	{"Ea=1:x,2:y\n", "@a;", "Ea=2:x\n", "@a;", true, false},
	{"Ea=1:x,2:y,3:z\n", "@a;", "Ea=1:x,3:y\n", "@a;", true, false},
	{"Ea=1:x,2:y,3:z\n", "[?@a;", "Ea=2:x,3:y\n", "[?@a;", true, false},
	{"Ea=1:x\n", "@a;", "Ea=2:x\n", "@a;", false, false},
	{"Ea=1:x,2:y\n", "@a;", "Ea=1:x,3:y\n", "@a;", false, false},
	{"Ea=1:x,200:y\n", "@a;", "Ea=200:x\n", "@a;", true, false},
	// A union that has more tags, or one less, at each place, and one whose kind of one tag does not read.
	{"Ua=1:x:n\n", "@a;", "Ua=1:x:n\n", "@a;", true, true},
	{"Ua=1:x:n,2:y:t\n", "@a;", "Ua=1:x:n\n", "@a;", true, false},
	{"Ua=1:x:n,2:y:t\n", "@a;", "Ua=2:x:t\n", "@a;", true, false},
	{"Ua=1:x:n,2:y:t,3:z:f\n", "@a;", "Ua=1:x:n,3:z:f\n", "@a;", true, false},
	{"Ua=1:x:n,2:y:t\n", "@a;", "Ua=1:x:n,3:y:t\n", "@a;", false, false},
	{"Ua=1:x:n\n", "@a;", "Ua=1:x:t\n", "@a;", false, false},
	{"Ua=1:x:n,2:y:n,3:z:n\n", "@a;", "Ua=1:x:n,2:y:n,3:z:t\n", "@a;", false, false},
	{"Ua=1:x:n,2:y:n,3:z:n\n", "@a;", "Ua=1:x:n,2:y:[n,3:z:n\n", "@a;", false, false},
	{"Ua=1:x:n,2:y:@b;\nUb=1:x:n,2:y:t\n", "@a;", "Ua=1:x:n,2:y:@b;\nUb=1:x:n\n", "@a;", true, false},
	{"Ua=1:x:n,2:y:@e;\nEe=1:x\n", "@a;", "Ua=1:x:n,2:y:@e;\nEe=1:x,2:y\n", "@a;", false, true},
	// The standing values of a union's kinds do not matter by themselves.
	{"Ua=1:x:@e;\nEe=1:x,2:y\n", "@a;", "Ua=1:x:@e;\nEe=2:y\n", "@a;", true, false},
	{"Ua=1:x:@b;\nUb=1:x:n,2:y:t\n", "@a;", "Ua=1:x:@b;\nUb=2:y:t\n", "@a;", true, false},
	// Records in which either one has fields that the other one has not, and ones in which a kind does not read.
	{"Ra=\n", "@a;", "Ra=\n", "@a;", true, true},
	{"Ra=\n", "@a;", "Ra=1:x:n=5,2:y:@a;\n", "@a;", true, true},
	{"Ra=1:x:n,3:z:t\n", "@a;", "Ra=1:x:n,2:y:f\n", "@a;", true, true},
	{"Ra=1:x:n,2:y:t,3:z:f\n", "@a;", "Ra=2:y:t\n", "@a;", true, true},
	{"Ra=1:x:n,2:y:t,3:z:f\n", "@a;", "Ra=2:y:n\n", "@a;", false, false},
	{"Ra=1:x:n,3:z:t\n", "@a;", "Ra=1:x:n,2:y:f,3:z:f\n", "@a;", false, false},
	{"Ra=1:x:n\n", "@a;", "Ra=1:x:t\n", "@a;", false, false},
	{"Ra=1:x:[n\n", "@a;", "Ra=1:x:[t\n", "@a;", false, false},
	{"Ra=1:x:?n\n", "@a;", "Ra=1:x:?@a;\n", "@a;", false, false},
	{"Ra=200:x:[?n\n", "@a;", "Ra=199:x:t,200:y:[?n\n", "@a;", true, true},
	{"Ra=1:x:@l;\n" + leafNumber, "@a;", "Ra=1:x:@l;\n" + leafText, "@a;", false, false},
	{"Ra=1:x:[@l;\n" + leafNumber, "@a;", "Ra=1:x:[@l;\n" + leafText, "@a;", false, false},
	{"Ra=1:x:?@l;\n" + leafNumber, "@a;", "Ra=2:x:?@l;\n" + leafText, "@a;", true, true},
	// Standing values that are told, or that a kind or a type gives.
	{"Ra=1:x:n=5\n", "@a;", "Ra=1:x:n=5\n", "@a;", true, true},
	{"Ra=1:x:n=5\n", "@a;", "Ra=1:x:n\n", "@a;", false, false},
	{"Ra=1:x:n=5\n", "@a;", "Ra=1:x:n=6\n", "@a;", false, false},
	{"Ra=1:x:n=5\n", "@a;", "Ra=1:x:n=50\n", "@a;", false, false},
	{"Ra=1:x:t='a'\n", "@a;", "Ra=1:y:t='a'\n", "@a;", true, true},
	{"Ra=1:x:t='a'\n", "@a;", "Ra=1:x:t='b'\n", "@a;", false, false},
	{"Ra=1:x:t='0'\n", "@a;", "Ra=1:x:t\n", "@a;", false, false},
	{"Ra=1:x:t=' '\n", "@a;", "Ra=1:x:t='  '\n", "@a;", false, false},
	{"Ra=1:x:f=yes\n", "@a;", "Ra=1:x:f\n", "@a;", false, false},
	{"Ra=1:x:f=yes\n", "@a;", "Ra=1:x:f=yes\n", "@a;", true, true},
	{"Ra=1:x:n=5,2:y:n=6\n", "@a;", "Ra=2:y:n=6,3:z:n=5\n", "@a;", true, true},
	{"Ra=1:x:n=5,2:y:n=6\n", "@a;", "Ra=2:y:n=5\n", "@a;", false, false},
	{"Ra=1:x:?@b;\nRb=1:y:n=5\n", "@a;", "Ra=1:x:?@b;\nRb=1:y:n\n", "@a;", false, false},
	{"Ua=1:x:n,2:y:@b;\nRb=1:y:n=5\n", "@a;", "Ua=1:x:n,2:y:@b;\nRb=1:y:n\n", "@a;", false, false},
	{"Ra=1:x:@e;\nEe=1:x,2:y\n", "@a;", "Ra=1:x:@e;\nEe=1:x\n", "@a;", true, false},
	{"Ra=1:x:@e;\nEe=1:x,2:y\n", "@a;", "Ra=1:x:@e;\nEe=2:y\n", "@a;", false, false},
	{"Ra=1:x:[@e;\nEe=1:x,2:y\n", "@a;", "Ra=1:x:[@e;\nEe=2:y\n", "@a;", true, false},
	{"Ra=1:x:?@e;\nEe=1:x,2:y\n", "@a;", "Ra=1:x:?@e;\nEe=2:y\n", "@a;", true, false},
	{"Ra=1:x:@u;\nUu=1:x:n,2:y:t\n", "@a;", "Ra=1:x:@u;\nUu=1:x:n\n", "@a;", true, false},
	{"Ra=1:x:@u;\nUu=1:x:n,2:y:t\n", "@a;", "Ra=1:x:@u;\nUu=2:y:t\n", "@a;", false, false},
	{"Ra=1:x:@u;\nUu=3:x:@v;\nUv=1:x:n,2:y:t\n", "@a;", "Ra=1:x:@u;\nUu=3:x:@v;\nUv=2:y:t\n", "@a;", false, false},
	{"Ra=1:x:@u;\nUu=3:x:@e;\nEe=7:x,8:y\n", "@a;", "Ra=1:x:@u;\nUu=3:x:@e;\nEe=8:y\n", "@a;", false, false},
	{"Ra=1:x:@u;\nUu=3:x:[@e;\nEe=7:x,8:y\n", "@a;", "Ra=1:x:@u;\nUu=3:x:[@e;\nEe=8:y\n", "@a;", true, false},
	{"Ra=1:x:@b;\nRb=1:x:n=5\n", "@a;", "Ra=1:x:@b;\nRb=2:x:n=6\n", "@a;", true, true},
	// Types that ask for themselves: directly, within a list, within what may be there.
	{"Ra=1:x:@a;\n", "@a;", "Rb=1:y:@b;\n", "@b;", true, true},
	{"Ra=1:x:[@a;\n", "@a;", "Rb=1:y:[@b;\n", "@b;", true, true},
	{"Ra=1:x:?@a;\n", "@a;", "Rb=1:y:?@b;\n", "@b;", true, true},
	{"Ra=1:x:[?[@a;\n", "?@a;", "Rb=1:y:[?[@b;\n", "?@b;", true, true},
	{"Ra=1:x:[@a;\n", "@a;", "Rb=1:y:?@b;\n", "@b;", false, false},
	{"Ra=1:x:@a;\n", "@a;", "Rb=1:y:?@b;\n", "@b;", false, false},
	{"Ra=1:x:@a;,2:y:n\n", "@a;", "Rb=1:x:@b;,3:z:t\n", "@b;", true, true},
	{"Ua=1:x:n,2:y:@a;\n", "@a;", "Ub=1:x:n,2:y:@b;\n", "@b;", true, true},
	{"Ua=1:x:[@a;\n", "@a;", "Ub=1:x:[@b;\n", "@b;", true, true},
	// Through one another, through a record, a union, and both, in rows that are not of one length.
	{"Ra=1:x:@b;\nRb=1:x:@a;\n", "@a;", "Rb=1:x:@a;\nRa=1:x:@b;\n", "@a;", true, true},
	{"Ra=1:x:@b;\nRb=1:x:@a;\n", "@a;", "Rz=1:x:@z;\n", "@z;", true, true},
	{"Ra=1:x:@b;\nRb=1:x:@c;\nRc=1:x:@a;\n", "@a;", "Ra=1:x:@b;\nRb=1:x:@a;\n", "@b;", true, true},
	{"Ra=1:x:@b;\nRb=1:x:@c;\nRc=1:x:@b;\n", "@a;", "Rz=1:x:@z;\n", "@z;", true, true},
	{"Ra=1:x:@u;\nUu=1:y:n,2:z:@a;\n", "@a;", "Rb=1:x:@v;\nUv=1:y:n,2:z:@b;\n", "@b;", true, true},
	{"Ra=1:x:@u;\nUu=1:y:n,2:z:@a;\n", "@u;", "Rb=1:x:@v;\nUv=1:y:n,2:z:@b;\n", "@v;", true, true},
	{"Ra=1:x:@u;\nUu=1:y:n,2:z:@a;\n", "@a;", "Rb=1:x:@v;\nUv=1:y:n,2:z:@c;\nRc=1:x:@v;\n", "@b;", true, true},
	{"Ua=1:x:n,2:y:@b;\nUb=1:x:n,2:y:@a;\n", "@a;", "Uz=1:x:n,2:y:@z;\n", "@z;", true, true},
	{"Ua=1:x:n,2:y:@b;\nUb=1:x:n,2:y:@a;,3:z:n\n", "@a;", "Uz=1:x:n,2:y:@z;\n", "@z;", true, false},
	// They ask for themselves, and something else tells no: ahead, behind, in a type between, and behind where another pair was asked for.
	{"Ra=1:x:n,2:y:@a;\n", "@a;", "Ra=1:x:t,2:y:@a;\n", "@a;", false, false},
	{"Ra=2:y:@a;,3:x:n\n", "@a;", "Ra=2:y:@a;,3:x:t\n", "@a;", false, false},
	{"Ra=2:y:@a;,3:x:n\n", "@a;", "Ra=2:y:@a;,3:x:n=5\n", "@a;", false, false},
	{"Ua=1:x:n,2:y:@a;,3:z:n\n", "@a;", "Ua=1:x:n,2:y:@a;,3:z:t\n", "@a;", false, false},
	{"Ua=1:x:n,2:y:@a;\n", "@a;", "Ua=1:x:n,2:y:@a;,3:z:t\n", "@a;", false, true},
	{"Ra=1:x:@b;,2:y:n\nRb=1:x:@a;\n", "@b;", "Ra=1:x:@b;,2:y:t\nRb=1:x:@a;\n", "@b;", false, false},
	{"Ra=1:x:@b;\nRb=1:x:@a;,2:y:n\n", "@a;", "Ra=1:x:@b;\nRb=1:x:@a;,2:y:t\n", "@a;", false, false},
	{"Ra=1:x:@b;\nRb=1:x:@a;,2:y:n\n", "@b;", "Ra=1:x:@b;\nRb=1:x:@a;,2:y:t\n", "@b;", false, false},
	{"Ra=1:x:@b;,2:y:@l;\nRb=1:x:@a;\n" + leafNumber, "@a;", "Ra=1:x:@b;,2:y:@l;\nRb=1:x:@a;\n" + leafText, "@a;", false, false},
	{"Ra=1:x:@b;,2:y:@l;\nRb=1:x:@a;\n" + leafNumber, "@b;", "Ra=1:x:@b;,2:y:@l;\nRb=1:x:@a;\n" + leafText, "@b;", false, false},
	{"Ra=1:x:@l;,2:y:@a;\n" + leafNumber, "@a;", "Ra=1:x:@l;,2:y:@a;\n" + leafText, "@a;", false, false},
	{"Ra=1:x:@u;,9:y:[@a;\nUu=1:y:n,2:z:@a;,3:w:f\n", "@a;", "Ra=1:x:@u;,9:y:[@a;\nUu=1:y:n,2:z:@a;,3:w:t\n", "@a;", false, false},
	{"Ra=1:x:@b;\nRb=1:x:@c;\nRc=1:x:@a;,2:y:n\n", "@a;", "Rz=1:x:@z;,2:y:t\n", "@z;", false, false},
	{"Ra=1:x:@b;\nRb=1:x:@c;\nRc=1:x:@a;,2:y:n\n", "@a;", "Rz=1:x:@z;,2:y:n\n", "@z;", true, true},
	// A pair that is asked for twice.
	{"Ra=1:x:@l;,2:y:@l;\n" + leafNumber, "@a;", "Ra=1:x:@l;,2:y:@l;\n" + leafNumber, "@a;", true, true},
	{"Ra=1:x:@l;,2:y:@l;\n" + leafNumber, "@a;", "Ra=1:x:@l;,2:y:@l;\n" + leafText, "@a;", false, false},
	{"Ra=1:x:@l;,2:y:@l;,3:z:n\n" + leafNumber, "@a;", "Ra=1:x:@l;,2:y:@l;,3:z:t\n" + leafNumber, "@a;", false, false},
	{"Ra=1:x:[@e;,2:y:@e;\nEe=1:x,2:y\n", "@a;", "Ra=1:x:[@e;,2:y:@e;\nEe=2:y\n", "@a;", false, false},
	{"Ua=1:x:@l;,2:y:[@l;,3:z:?@l;\n" + leafNumber, "@a;", "Ua=1:x:@l;,2:y:[@l;,3:z:?@l;\n" + leafNumber, "@a;", true, true},
	// One newer type that is asked for with two older ones, and the other way round.
	{"Ra=1:x:@l;,2:y:@l;\n" + leafNumber, "@a;", "Ra=1:x:@l;,2:y:@m;\nRm=1:v:n\n" + leafNumber, "@a;", true, true},
	{"Ra=1:x:@l;,2:y:@l;\n" + leafNumber, "@a;", "Ra=1:x:@l;,2:y:@m;\nRm=1:v:t\n" + leafNumber, "@a;", false, false},
	{"Ra=1:x:@l;,2:y:@l;\n" + leafNumber, "@a;", "Ra=1:x:@m;,2:y:@l;\nRm=1:v:t\n" + leafNumber, "@a;", false, false},
	{"Ra=1:x:@l;,2:y:@l;\n" + leafNumber, "@a;", "Ra=1:x:@l;,2:y:@m;\nUm=1:v:n\n" + leafNumber, "@a;", false, false},
	{"Ra=1:x:@a;,2:y:@a;\n", "@a;", "Ra=1:x:@a;,2:y:@b;\nRb=1:x:@a;,2:y:n\n", "@a;", false, false},
	{"Ra=1:x:@a;,2:y:@a;\n", "@a;", "Ra=1:x:@a;,2:y:@b;\nRb=1:x:@b;,2:y:@a;\n", "@a;", true, true},
	{"Ra=1:x:[@e;,2:y:[@e;\nEe=1:x,2:y\n", "@a;", "Ra=1:x:[@e;,2:y:[@d;\nEe=2:y\nEd=1:x\n", "@a;", true, false},
	{"Ra=1:x:[@e;,2:y:[@e;\nEe=1:x,2:y\n", "@a;", "Ra=1:x:[@e;,2:y:[@d;\nEe=2:y\nEd=3:x\n", "@a;", false, false},
}

// liftCase is an older value with what it is lifted.
type liftCase struct {
	newer, kind, older, old, text, lifted string
}

// The schemas of lifting: the newer one has less fields in r, in s, which is within r, and in l, and other ones that the older one has not.
const (
	olderSchema = "Rr=1:a:n,2:b:t,3:c:@s;,4:d:[@s;,5:e:?@s;,6:g:@u;,7:h:@q;,9:i:n=5\nRs=1:a:n=5,2:b:n,3:c:@s;,4:d:?@s;\nUu=1:x:@s;,2:y:[@s;,3:z:n\nRq=2:a:@s;\n"
	newerSchema = "Rr=1:a:n,3:cc:@s;,4:d:[@s;,5:e:?@s;,6:u:@u;,7:q:@q;,8:new:t='x'\nRs=1:a:n=5,3:c:@s;,4:d:?@s;,9:z:f\nUu=1:x:@s;,2:y:[@s;,3:z:n\nRq=1:z:n,2:a:@s;\n"
)

var liftCases = []liftCase{
	// Values of which nothing is left out.
	{"", "n", "", "n", "0", "0"},
	{"", "n", "", "n", "999999", "999999"},
	{"", "t", "", "t", "''", "''"},
	{"", "t", "", "t", "'a b'", "'a b'"},
	{"", "f", "", "f", "no", "no"},
	{"", "f", "", "f", "yes", "yes"},
	{"", "[n", "", "[n", "[]", "[]"},
	{"", "[n", "", "[n", "[0,5]", "[0,5]"},
	{"", "?n", "", "?n", "-", "-"},
	{"", "??n", "", "??n", "+-", "+-"},
	{"", "[?t", "", "[?t", "[-,+'']", "[-,+'']"},
	{"Ea=1:x,2:y\n", "@a;", "Eb=2:x\n", "@b;", "#2", "#2"},
	{"Ea=1:x,2:y\n", "[@a;", "Eb=2:x\n", "[@b;", "[#2,#2]", "[#2,#2]"},
	{"Ua=1:x:n,2:y:t\n", "@a;", "Ub=2:x:t\n", "@b;", "<2='a'>", "<2='a'>"},
	{"Ua=1:x:n,2:y:t\n", "@a;", "Ub=1:x:n\n", "@b;", "<1=0>", "<1=0>"},
	{"Ra=\n", "@a;", "Rb=1:x:n\n", "@b;", "{}", "{}"},
	{"Ra=1:x:n\n", "@a;", "Rb=\n", "@b;", "{}", "{}"},
	{"Ra=1:x:n,2:y:t\n", "@a;", "Rb=1:p:n,2:q:t\n", "@b;", "{1=7,2='a'}", "{1=7,2='a'}"},
	{newerSchema, "@r;", olderSchema, "@r;", "{}", "{}"},
	{newerSchema, "@r;", olderSchema, "@r;", "{1=7,3={1=0},4=[{}],5=+{},6=<3=0>,7={2={1=0}}}", "{1=7,3={1=0},4=[{}],5=+{},6=<3=0>,7={2={1=0}}}"},
	{newerSchema, "@s;", olderSchema, "@s;", "{3={3={4=+{1=1}}}}", "{3={3={4=+{1=1}}}}"},
	// Fields that the newer type has not, in the record itself: alone, first, last, and among others.
	{"Ra=1:x:n\n", "@a;", "Ra=2:y:n\n", "@a;", "{2=7}", "{}"},
	{"Ra=2:x:n\n", "@a;", "Ra=1:y:n,2:x:n\n", "@a;", "{1=7,2=8}", "{2=8}"},
	{"Ra=1:x:n\n", "@a;", "Ra=1:x:n,2:y:n\n", "@a;", "{1=7,2=8}", "{1=7}"},
	{"Ra=1:x:n,3:z:n\n", "@a;", "Ra=1:x:n,2:y:n,3:z:n\n", "@a;", "{1=7,2=8,3=9}", "{1=7,3=9}"},
	{"Ra=2:y:n\n", "@a;", "Ra=1:x:n,2:y:n,3:z:n\n", "@a;", "{1=7,2=8,3=9}", "{2=8}"},
	{"Ra=\n", "@a;", "Ra=1:x:n,2:y:[n,200:z:@a;\n", "@a;", "{1=7,2=[1],200={1=7}}", "{}"},
	{"Ra=1:p:n=5,7:z:t\n", "@a;", plainSchema, "@a;", "{1=7,2=['hi']}", "{1=7}"},
	{"Ra=1:p:n=5,7:z:t\n", "@a;", plainSchema, "@a;", "{1=0,4=+{}}", "{1=0}"},
	{newerSchema, "@r;", olderSchema, "@r;", "{1=7,2='a',9=0}", "{1=7}"},
	{newerSchema, "@r;", olderSchema, "@r;", "{2='a'}", "{}"},
	// Fields that it has not, deep within: within lists, unions, and what may be there, which are never left out.
	{newerSchema, "[@s;", olderSchema, "[@s;", "[{2=1},{},{1=1,2=1}]", "[{},{},{1=1}]"},
	{newerSchema, "?@s;", olderSchema, "?@s;", "+{2=1}", "+{}"},
	{newerSchema, "??@s;", olderSchema, "??@s;", "++{2=1}", "++{}"},
	{newerSchema, "[?[@s;", olderSchema, "[?[@s;", "[-,+[{2=1}],+[]]", "[-,+[{}],+[]]"},
	{newerSchema, "@u;", olderSchema, "@u;", "<1={2=1}>", "<1={}>"},
	{newerSchema, "@u;", olderSchema, "@u;", "<2=[{2=1},{2=1}]>", "<2=[{},{}]>"},
	{newerSchema, "[@u;", olderSchema, "[@u;", "[<1={1=0,2=1}>,<3=7>]", "[<1={1=0}>,<3=7>]"},
	{newerSchema, "@r;", olderSchema, "@r;", "{4=[{2=1}]}", "{4=[{}]}"},
	{newerSchema, "@r;", olderSchema, "@r;", "{5=+{2=1}}", "{5=+{}}"},
	{newerSchema, "@r;", olderSchema, "@r;", "{6=<2=[{2=1}]>}", "{6=<2=[{}]>}"},
	{newerSchema, "@s;", olderSchema, "@s;", "{4=+{4=+{2=1}}}", "{4=+{4=+{}}}"},
	{newerSchema, "@s;", olderSchema, "@s;", "{3={1=0,2=1}}", "{3={1=0}}"},
	// Fields that come to be their standing values, since something within them is left out; and records around them that then do, too.
	{newerSchema, "@r;", olderSchema, "@r;", "{3={2=1}}", "{}"},
	{newerSchema, "@r;", olderSchema, "@r;", "{1=7,3={2=1},5=+{}}", "{1=7,5=+{}}"},
	{newerSchema, "@r;", olderSchema, "@r;", "{3={3={3={2=1}}}}", "{}"},
	{newerSchema, "@r;", olderSchema, "@r;", "{3={1=0,3={3={2=1}}}}", "{3={1=0}}"},
	{newerSchema, "@r;", olderSchema, "@r;", "{3={3={3={1=0,2=1}}}}", "{3={3={3={1=0}}}}"},
	{newerSchema, "@r;", olderSchema, "@r;", "{7={2={2=1}}}", "{}"},
	{newerSchema, "@r;", olderSchema, "@r;", "{7={2={3={2=1}}},9=1}", "{}"},
	{newerSchema, "@r;", olderSchema, "@r;", "{6=<1={2=1}>}", "{}"},
	{newerSchema, "@r;", olderSchema, "@r;", "{6=<1={3={2=1}}>}", "{}"},
	{newerSchema, "@r;", olderSchema, "@r;", "{6=<1={1=1,2=1}>}", "{6=<1={1=1}>}"},
	{newerSchema, "[@r;", olderSchema, "[@r;", "[{6=<1={2=1}>},{3={2=1}}]", "[{},{}]"},
	{newerSchema, "@s;", olderSchema, "@s;", "{4=+{3={2=1}}}", "{4=+{}}"},
	{newerSchema, "@u;", olderSchema, "@u;", "<1={3={2=1}}>", "<1={}>"},
	{"Ra=1:x:@u;\nUu=3:x:@v;,4:y:n\nUv=5:x:@s;\nRs=\n", "@a;", "Ra=1:x:@u;\nUu=3:x:@v;,4:y:n\nUv=5:x:@s;\nRs=1:x:n\n", "@a;", "{1=<3=<5={1=7}>>}", "{}"},
	// A told standing value is not that of the kind.
	{"Ra=1:x:n=5\n", "@a;", "Ra=1:x:n=5,2:y:n\n", "@a;", "{1=0,2=7}", "{1=0}"},
	{"Ra=1:x:t='a',2:y:f=yes\n", "@a;", "Ra=1:x:t='a',2:y:f=yes,3:z:n\n", "@a;", "{1='',2=no,3=7}", "{1='',2=no}"},
	// The other way round: the older schema lacks other fields.
	{olderSchema, "@r;", newerSchema, "@r;", "{1=7,3={9=yes},8=''}", "{1=7}"},
	{olderSchema, "[@q;", newerSchema, "[@q;", "[{1=7},{2={9=yes}},{1=7,2={1=0,9=yes}}]", "[{},{},{2={1=0}}]"},
	// Types that lead to themselves, by rows that are not of one length.
	{"Ra=1:x:@b;,2:y:n\nRb=1:x:@a;\n", "@a;", "Rz=1:x:@z;,2:y:n\n", "@z;", "{1={1={2=7},2=8},2=9}", "{1={1={2=7}},2=9}"},
	{"Ra=1:x:@b;,2:y:n\nRb=1:x:@a;\n", "@a;", "Rz=1:x:@z;,2:y:n\n", "@z;", "{1={1={1={2=7}},2=8}}", "{}"},
	{"Rz=1:x:@z;,3:y:n\n", "@z;", "Ra=1:x:@b;,2:y:n\nRb=1:x:@a;,3:y:n\n", "@a;", "{1={1={1={3=7},2=8},3=9},2=6}", "{1={1={1={3=7}},3=9}}"},
}

// kindIn tells by the definition whether a text is a kind of a schema.
func kindIn(c schemaCase, kind string) bool {
	k, ok := slowKind(kind)
	_, found := typeOf(c, k.name)
	return ok && (k.name == "" || found)
}

// namePair is the names of a newer type and of an older one.
type namePair struct {
	newer, older string
}

// slowEvolve tells by the definition, without the program, which newer types read which older ones: all, but for those that tell no, until no more do.
func slowEvolve(newer schemaCase, older schemaCase) map[namePair]bool {
	reads := map[namePair]bool{}
	for _, now := range newer.types {
		for _, was := range older.types {
			reads[namePair{now.name, was.name}] = true
		}
	}
	for again := true; again; {
		again = false
		for _, now := range newer.types {
			for _, was := range older.types {
				pair := namePair{now.name, was.name}
				if reads[pair] && !slowTypeReads(reads, now, was) {
					reads[pair] = false
					again = true
				}
			}
		}
	}
	return reads
}

// slowTypeReads tells whether a newer type reads an older one where it is told which other ones do.
func slowTypeReads(reads map[namePair]bool, now schemaType, was schemaType) bool {
	all := now.sort == was.sort
	for _, f := range was.fields {
		g, found := fieldOf(now, f.tag)
		switch was.sort {
		case "E":
			all = all && found
		case "U":
			all = all && found && slowKindReads(reads, g.kind, f.kind)
		case "R":
			all = all && (!found || g.stand == f.stand && slowKindReads(reads, g.kind, f.kind))
		}
	}
	return all
}

// slowKindReads tells whether a newer kind reads an older one where it is told which types do.
func slowKindReads(reads map[namePair]bool, kind string, old string) bool {
	now, nowOk := slowKind(kind)
	was, wasOk := slowKind(old)
	if !nowOk || !wasOk || kind[:now.deep] != old[:was.deep] {
		return false
	}
	if now.name == "" || was.name == "" {
		return kind == old
	}
	return reads[namePair{now.name, was.name}]
}

// slowLifted tells by the definition, without the program, an older value lifted, where the newer kind reads the older one.
func slowLifted(newer schemaCase, kind string, s string) string {
	switch s[0] {
	case '+':
		return "+" + slowLifted(newer, kind[1:], s[1:])
	case '[':
		pieces, _ := slowPieces(s, "[", "]")
		for i, piece := range pieces {
			pieces[i] = slowLifted(newer, kind[1:], piece)
		}
		return "[" + strings.Join(pieces, ",") + "]"
	case '{', '<':
		def, _ := typeOf(newer, kind[1:len(kind)-1])
		pieces, _ := slowPieces(s, s[:1], s[len(s)-1:])
		var left []string
		for _, piece := range pieces {
			m := toldLook.FindStringSubmatch(piece)
			tag, _ := strconv.Atoi(m[1])
			f, found := fieldOf(def, tag)
			if !found {
				continue
			}
			if part := slowLifted(newer, f.kind, m[2]); s[0] == '<' || part != f.stand {
				left = append(left, m[1]+"="+part)
			}
		}
		return s[:1] + strings.Join(left, ",") + s[len(s)-1:]
	}
	return s
}

// evolvePair is a newer schema and an older one, and which types of these read each other, either way.
type evolvePair struct {
	newer, older schemaCase
	there, back  map[namePair]bool
}

// pairOf is the pair of two schemas.
func pairOf(newer schemaCase, older schemaCase) evolvePair {
	return evolvePair{newer, older, slowEvolve(newer, older), slowEvolve(older, newer)}
}

// pairRead is the pair of two texts that must be schemas.
func pairRead(t *testing.T, newer string, older string) evolvePair {
	t.Helper()
	return pairOf(schemaRead(t, newer), schemaRead(t, older))
}

// turned is the pair the other way round.
func (p evolvePair) turned() evolvePair {
	return evolvePair{p.older, p.newer, p.back, p.there}
}

// reads tells by the definition what EvolveReads is.
func (p evolvePair) reads(kind string, old string) bool {
	return kindIn(p.newer, kind) && kindIn(p.older, old) && slowKindReads(p.there, kind, old)
}

// lift tells by the definition what EvolveLift is.
func (p evolvePair) lift(kind string, old string, s string) (string, bool) {
	_, ok := slowValue(p.older, old, s)
	if !ok || !p.reads(kind, old) {
		return "", false
	}
	return slowLifted(p.newer, kind, s), true
}

func checkReads(t *testing.T, newer string, kind string, older string, old string, want bool) {
	t.Helper()
	if got := impl.EvolveReads(newer, kind, older, old); got != want {
		t.Errorf("EvolveReads(%q, %q, %q, %q) = %v, want %v", newer, kind, older, old, got, want)
	}
}

func checkBoth(t *testing.T, newer string, kind string, older string, old string, want bool) {
	t.Helper()
	if got := impl.EvolveBoth(newer, kind, older, old); got != want {
		t.Errorf("EvolveBoth(%q, %q, %q, %q) = %v, want %v", newer, kind, older, old, got, want)
	}
}

// checkLift also holds EvolveLost against what the value is lifted to.
func checkLift(t *testing.T, newer string, kind string, older string, old string, s string, want string, wantOk bool) {
	t.Helper()
	if got, ok := impl.EvolveLift(newer, kind, older, old, s); got != want || ok != wantOk {
		t.Errorf("EvolveLift(%q, %q, %q, %q, %q) = %q, %v, want %q, %v", newer, kind, older, old, s, got, ok, want, wantOk)
	}
	lost := wantOk && want != s
	if got, ok := impl.EvolveLost(newer, kind, older, old, s); got != lost || ok != wantOk {
		t.Errorf("EvolveLost(%q, %q, %q, %q, %q) = %v, %v, want %v, %v", newer, kind, older, old, s, got, ok, lost, wantOk)
	}
}

// checkNoEvolve checks that no function tells anything where the schemas or the kinds are not valid.
func checkNoEvolve(t *testing.T, newer string, kind string, older string, old string, texts ...string) {
	t.Helper()
	checkReads(t, newer, kind, older, old, false)
	checkReads(t, older, old, newer, kind, false)
	checkBoth(t, newer, kind, older, old, false)
	checkBoth(t, older, old, newer, kind, false)
	for _, s := range texts {
		checkLift(t, newer, kind, older, old, s, "", false)
		checkLift(t, older, old, newer, kind, s, "", false)
	}
}

// checkLikeSlowEvolve holds two kinds, either way, against the definition, and reports whether the newer one reads the older one.
func checkLikeSlowEvolve(t *testing.T, p evolvePair, kind string, old string) bool {
	t.Helper()
	there, back := p.reads(kind, old), p.turned().reads(old, kind)
	checkReads(t, p.newer.text, kind, p.older.text, old, there)
	checkReads(t, p.older.text, old, p.newer.text, kind, back)
	checkBoth(t, p.newer.text, kind, p.older.text, old, there && back)
	checkBoth(t, p.older.text, old, p.newer.text, kind, there && back)
	return there
}

// checkLikeSlowLift holds a text against the definition, and reports whether it is lifted.
func checkLikeSlowLift(t *testing.T, p evolvePair, kind string, old string, s string) bool {
	t.Helper()
	lifted, ok := p.lift(kind, old, s)
	checkLift(t, p.newer.text, kind, p.older.text, old, s, lifted, ok)
	return ok
}

// typeKinds are the kinds of the types of a schema, without signs ahead.
func typeKinds(c schemaCase) []string {
	var kinds []string
	for _, def := range c.types {
		kinds = append(kinds, "@"+def.name+";")
	}
	return kinds
}

// textOfTypes is the schema that has some types.
func textOfTypes(types []schemaType) string {
	return linesOf(len(types), func(i int) string {
		var fields []string
		for _, f := range types[i].fields {
			text := strconv.Itoa(f.tag) + ":" + f.name
			if types[i].sort != "E" {
				text += ":" + f.kind
			}
			if types[i].sort == "R" && plainValues[f.kind] != nil && f.stand != "" {
				if usual, _ := slowKindStand(f.kind, nil); f.stand != usual {
					text += "=" + f.stand
				}
			}
			fields = append(fields, text)
		}
		return types[i].sort + types[i].name + "=" + strings.Join(fields, ",")
	})
}

// evolver changes the types of a schema, and keeps what each type that was there at first is named now.
type evolver struct {
	valueMaker
	types []schemaType
	names map[string]string
}

// newEvolver is an evolver of a copy of the types of a schema.
func newEvolver(m valueMaker, c schemaCase) *evolver {
	e := &evolver{m, nil, map[string]string{}}
	for _, def := range c.types {
		def.fields = slices.Clone(def.fields)
		e.types = append(e.types, def)
		e.names[def.name] = def.name
	}
	return e
}

// step makes one change; most of them leave it to the older schema to be read.
func (e *evolver) step() {
	def := &e.types[e.r.Intn(len(e.types))]
	switch e.r.Intn(20) {
	case 0, 1:
		e.rename(def.name, "v"+def.name[:1]+letter(e.r.Intn(26)))
	case 2:
		slices.Reverse(e.types)
	case 3:
		e.double(*def)
	case 4, 5, 6, 7, 8, 9:
		e.add(def)
	default:
		if len(def.fields) > 0 {
			e.stepField(def, e.r.Intn(len(def.fields)))
		}
	}
}

// stepField changes one field of a type.
func (e *evolver) stepField(def *schemaType, i int) {
	f := &def.fields[i]
	switch e.r.Intn(16) {
	case 0, 1:
		f.name = "w" + letter(e.r.Intn(26))
	case 2:
		f.stand = []string{"", "7", "8", "'a b'", "yes"}[e.r.Intn(5)]
	case 3:
		f.kind, f.stand = e.kindOf(), ""
	case 4:
		f.tag++
	case 5:
		def.sort = "RUE"[e.r.Intn(3):][:1]
	default:
		def.fields = slices.Delete(def.fields, i, i+1)
	}
}

// kindOf is a kind of the types.
func (e *evolver) kindOf() string {
	return e.kind(schemaCase{types: e.types})
}

// rename gives a type another name.
func (e *evolver) rename(name string, other string) {
	for i := range e.types {
		if e.types[i].name == name {
			e.types[i].name = other
		}
		for j := range e.types[i].fields {
			f := &e.types[i].fields[j]
			f.kind = strings.ReplaceAll(f.kind, "@"+name+";", "@"+other+";")
		}
	}
	for first, now := range e.names {
		if now == name {
			e.names[first] = other
		}
	}
}

// double puts a copy of a type under another name behind the others, to which some fields lead that led to the type.
func (e *evolver) double(def schemaType) {
	name := "d" + letter(e.r.Intn(26))
	first := "@" + def.name + ";"
	def.name, def.fields = name, slices.Clone(def.fields)
	e.types = append(e.types, def)
	for i := range e.types {
		for j := range e.types[i].fields {
			if f := &e.types[i].fields[j]; e.r.Intn(2) == 0 {
				f.kind = strings.ReplaceAll(f.kind, first, "@"+name+";")
			}
		}
	}
}

// add gives a type one more field.
func (e *evolver) add(def *schemaType) {
	f := schemaField{tag: 1 + e.r.Intn(200), name: "x" + letter(e.r.Intn(26)), kind: e.kindOf()}
	if def.sort == "E" {
		f.kind = ""
	}
	def.fields = append(def.fields, f)
	slices.SortFunc(def.fields, func(a, b schemaField) int { return a.tag - b.tag })
}

// madePair is a pair with the kinds of one type, or what was one, in both schemas.
type madePair struct {
	evolvePair
	kind, old string
}

// somePairs are pairs, written-out ones and made ones, in which one schema comes of the other one by some changes.
func somePairs(t *testing.T, n int) []madePair {
	t.Helper()
	m := valueMaker{rand.New(rand.NewSource(37))}
	cases := m.schemas(t, 1000)
	plain := []schemaCase{schemaRead(t, plainSchema), schemaRead(t, fullSchema), schemaRead(t, deepSchema), schemaRead(t, namesSchema), schemaRead(t, olderSchema)}
	var pairs []madePair
	for _, c := range evolveCases {
		pairs = append(pairs, madePair{pairRead(t, c.newer, c.older), c.kind, c.old})
	}
	for len(pairs) < n {
		c := cases[m.r.Intn(len(cases))]
		if m.r.Intn(2) == 0 {
			c = plain[m.r.Intn(len(plain))]
		}
		e := newEvolver(m, c)
		for range 1 + m.r.Intn(6) {
			e.step()
		}
		text := textOfTypes(e.types)
		types, ok := slowSchema(text)
		if !ok {
			continue
		}
		p := pairOf(schemaCase{text, types}, c)
		def := c.types[m.r.Intn(len(c.types))]
		signs := []string{"", "", "", "[", "?", "[?"}[m.r.Intn(6)]
		made := madePair{p, signs + "@" + e.names[def.name] + ";", signs + "@" + def.name + ";"}
		if m.r.Intn(2) == 0 {
			made = madePair{p.turned(), made.old, made.kind}
		}
		pairs = append(pairs, made)
	}
	return pairs
}

// madeLift is a pair with an older value, what it is lifted to, and whether the older kind reads the newer one, too.
type madeLift struct {
	madePair
	text, lifted string
	both         bool
}

// someLifts are older values, written-out ones and made ones, that are lifted.
func someLifts(t *testing.T, n int) []madeLift {
	t.Helper()
	m := valueMaker{rand.New(rand.NewSource(38))}
	var lifts []madeLift
	add := func(p madePair, s string) {
		if lifted, ok := p.lift(p.kind, p.old, s); ok {
			lifts = append(lifts, madeLift{p, s, lifted, p.turned().reads(p.old, p.kind)})
		}
	}
	for _, c := range liftCases {
		add(madePair{pairRead(t, c.newer, c.older), c.kind, c.old}, c.text)
	}
	for _, p := range somePairs(t, n) {
		for range 4 {
			add(p, m.value(p.older, p.old, 3+m.r.Intn(5)))
		}
	}
	if len(lifts) < n {
		t.Fatalf("only %d values are lifted", len(lifts))
	}
	return lifts
}

func TestEvolveCases(t *testing.T) {
	for _, c := range evolveCases {
		checkReads(t, c.newer, c.kind, c.older, c.old, c.there)
		checkReads(t, c.older, c.old, c.newer, c.kind, c.back)
		checkBoth(t, c.newer, c.kind, c.older, c.old, c.there && c.back)
		checkBoth(t, c.older, c.old, c.newer, c.kind, c.there && c.back)
		if checkLikeSlowEvolve(t, pairRead(t, c.newer, c.older), c.kind, c.old) != c.there {
			t.Errorf("the slow reading of %q of %q by %q of %q is %v", c.old, c.older, c.kind, c.newer, !c.there)
		}
	}
}

func TestEvolveLiftCases(t *testing.T) {
	for _, c := range liftCases {
		checkLift(t, c.newer, c.kind, c.older, c.old, c.text, c.lifted, true)
		if !checkLikeSlowLift(t, pairRead(t, c.newer, c.older), c.kind, c.old, c.text) {
			t.Errorf("the slow reading does not lift %q", c.text)
		}
	}
}

// TestEvolveLiftNotRead has values that are not lifted, since their kind is not read, although the bytes of some of them are.
func TestEvolveLiftNotRead(t *testing.T) {
	m := valueMaker{rand.New(rand.NewSource(8))}
	read, values := 0, 0
	for _, c := range evolveCases {
		if c.there {
			continue
		}
		p := pairRead(t, c.newer, c.older)
		stand, _ := impl.SchemaStands(c.older, c.old)
		for _, s := range []string{stand, m.value(p.older, c.old, 3), "{}", "0", "''", "no", "[]", "-", "#1", "#2", "<1=0>", "+{}"} {
			checkLift(t, c.newer, c.kind, c.older, c.old, s, "", false)
			if form, ok := impl.BytesPut(c.older, c.old, s); ok {
				values++
				if _, ok := impl.BytesGet(c.newer, c.kind, form); ok {
					read++
				}
			}
		}
	}
	if values < 100 || read < 30 {
		t.Errorf("%d values are not lifted, the bytes of %d are read", values, read)
	}
}

// TestEvolveSigns has all kinds of up to three signs ahead, for types that read each other one way, both ways, and none.
func TestEvolveSigns(t *testing.T) {
	p := pairRead(t, "Ra=1:x:n\nRb=1:x:@b;\nEc=1:x,2:y\n", "Ra=1:x:t\nRb=1:x:@b;\nEc=1:x\n")
	var kinds []string
	for _, last := range []string{"n", "t", "f", "@a;", "@b;", "@c;"} {
		eachText("", "[?", 3, func(signs string) {
			kinds = append(kinds, signs+last)
		})
	}
	reads := 0
	for _, kind := range kinds {
		for _, old := range kinds {
			if checkLikeSlowEvolve(t, p, kind, old) {
				reads++
			}
		}
	}
	// Of each row of signs n, t, f, b and c read just themselves.
	if want := 15 * 5; reads != want {
		t.Errorf("%d pairs of kinds read each other, want %d", reads, want)
	}
}

// TestEvolveEachField has types of one to eight fields, of which one is another one, or is missing.
func TestEvolveEachField(t *testing.T) {
	for sort, ends := range map[string][]string{"R": {":n", ":t", ":?n", ":n=5", ":@a;"}, "U": {":n", ":t", ":?n", ":@b;"}, "E": {""}} {
		for n := 1; n <= 8; n++ {
			head, tail := sort+"a=", "\nUb=1:x:n\n"
			fields := strings.Split(fieldsOf(n, ends[0]), ",")
			whole := head + strings.Join(fields, ",") + tail
			for i := range fields {
				for _, end := range ends {
					changed := slices.Clone(fields)
					changed[i] = strconv.Itoa(i+1) + ":zz" + end
					p := pairRead(t, whole, head+strings.Join(changed, ",")+tail)
					if checkLikeSlowEvolve(t, p, "@a;", "@a;") != (end == ends[0]) {
						t.Errorf("%q reads %q: %v", p.newer.text, p.older.text, end != ends[0])
					}
				}
				less := slices.Delete(slices.Clone(fields), i, i+1)
				if len(less) == 0 && sort != "R" {
					continue
				}
				p := pairRead(t, whole, head+strings.Join(less, ",")+tail)
				if !checkLikeSlowEvolve(t, p, "@a;", "@a;") || checkLikeSlowEvolve(t, p.turned(), "@a;", "@a;") != (sort == "R") {
					t.Errorf("%q and %q do not read each other as told", p.newer.text, p.older.text)
				}
			}
		}
	}
}

// TestEvolveLiftEachField has a record of eight fields, of which all, some or none are told, and all, some or none are left out.
func TestEvolveLiftEachField(t *testing.T) {
	older := "Ra=" + fieldsOf(8, ":n") + "\n"
	for kept := range 256 {
		var fields []string
		for i := range 8 {
			if kept>>i&1 == 1 {
				fields = append(fields, strconv.Itoa(i+1)+":"+letter(i)+":n")
			}
		}
		newer := "Ra=" + strings.Join(fields, ",") + "\n"
		for told := kept % 4; told < 256; told += 4 {
			text, lifted := map[int]string{}, map[int]string{}
			for i := range 8 {
				if told>>i&1 == 1 {
					text[i+1] = strconv.Itoa(i + 1)
				}
				if told&kept>>i&1 == 1 {
					lifted[i+1] = strconv.Itoa(i + 1)
				}
			}
			checkLift(t, newer, "@a;", older, "@a;", slowRecord(text), slowRecord(lifted), true)
		}
	}
}

// TestEvolveTwoTypes has all schemas of two types of some lines, which most often ask for themselves and for each other.
func TestEvolveTwoTypes(t *testing.T) {
	bodies := []string{"R=", "R=1:x:n", "R=1:x:@a;", "R=1:x:@b;", "R=1:x:[@b;", "R=1:x:@a;,2:y:@b;", "R=1:x:@b;,2:y:@a;", "R=1:x:@b;,2:y:n", "R=1:x:@b;,2:y:n=5", "U=1:x:n,2:y:@a;", "U=1:x:n,2:y:@b;", "U=1:x:n,2:y:@b;,3:z:@a;", "U=1:x:@b;", "E=1:x", "E=1:x,2:y"}
	var cases []schemaCase
	for _, a := range bodies {
		for _, b := range bodies {
			s := a[:1] + "a" + a[1:] + "\n" + b[:1] + "b" + b[1:] + "\n"
			if types, ok := slowSchema(s); ok {
				cases = append(cases, schemaCase{s, types})
			}
		}
	}
	reads, others := 0, 0
	for _, newer := range cases {
		for _, older := range cases {
			reading := slowEvolve(newer, older)
			for _, kind := range []string{"@a;", "@b;"} {
				want := slowKindReads(reading, kind, "@a;")
				checkReads(t, newer.text, kind, older.text, "@a;", want)
				if want {
					reads++
				} else {
					others++
				}
			}
		}
	}
	if len(cases) < 200 || reads < 5000 || others < 50000 {
		t.Errorf("of %d schemas %d types read others, %d do not", len(cases), reads, others)
	}
}

func TestEvolveMade(t *testing.T) {
	there, one, none := 0, 0, 0
	for _, p := range somePairs(t, 2500) {
		reads, back := checkLikeSlowEvolve(t, p.evolvePair, p.kind, p.old), p.turned().reads(p.old, p.kind)
		switch {
		case reads && back:
			there++
		case reads || back:
			one++
		default:
			none++
		}
	}
	if there < 500 || one < 200 || none < 300 {
		t.Errorf("%d kinds read each other, %d only one way, %d not at all", there, one, none)
	}
	// All types of both schemas, and not just those that were one.
	for _, p := range somePairs(t, 600) {
		for _, kind := range typeKinds(p.newer) {
			for _, old := range typeKinds(p.older) {
				checkLikeSlowEvolve(t, p.evolvePair, kind, old)
			}
		}
	}
}

func TestEvolveLiftMade(t *testing.T) {
	m := valueMaker{rand.New(rand.NewSource(9))}
	lost, whole, others := 0, 0, 0
	for _, v := range someLifts(t, 3000) {
		checkLift(t, v.newer.text, v.kind, v.older.text, v.old, v.text, v.lifted, true)
		if v.lifted != v.text {
			lost++
		} else {
			whole++
		}
		// The same text with one sign that is another one, or for another kind.
		at := m.r.Intn(len(v.text))
		sign := string("0159,=+-#'[]{}<>a "[m.r.Intn(18)])
		for _, s := range []string{v.text[:at] + sign + v.text[at+1:], v.text[:at] + v.text[at+1:], v.text + sign} {
			if !checkLikeSlowLift(t, v.evolvePair, v.kind, v.old, s) {
				others++
			}
		}
		if len(v.older.types) > 0 {
			checkLikeSlowLift(t, v.evolvePair, v.kind, m.kind(v.older), v.text)
		}
	}
	if lost < 800 || whole < 2000 || others < 3000 {
		t.Errorf("%d values lose something, %d do not, %d texts are none", lost, whole, others)
	}
}

// TestEvolveOneQuestionAfterAnother asks for types of the same names, which in one question read each other, and in the other one do not.
func TestEvolveOneQuestionAfterAnother(t *testing.T) {
	const first = "Ra=1:x:@b;,2:y:@a;\nRb=1:x:n,2:y:@b;\n"
	const second = "Ra=1:x:@b;,2:y:@a;\nRb=1:x:t,2:y:@b;\n"
	for range 3 {
		checkReads(t, first, "@a;", first, "@a;", true)
		checkReads(t, first, "@a;", second, "@a;", false)
		checkReads(t, second, "@b;", first, "@b;", false)
		checkReads(t, second, "@b;", second, "@b;", true)
		checkLift(t, first, "@a;", first, "@a;", "{1={1=7}}", "{1={1=7}}", true)
		checkLift(t, first, "@a;", second, "@a;", "{1={1='a'}}", "", false)
	}
	// Both ways are two questions: the first one holds, and says nothing for the second one, in which the same names are asked for.
	for _, c := range []struct{ newer, older string }{
		{"Ea=1:x,2:y\n", "Ea=1:x\n"},
		{"Ua=1:x:n,2:y:@a;,3:z:n\n", "Ua=1:x:n,2:y:@a;\n"},
		{"Ra=1:x:[@b;\nEb=1:x,2:y\n", "Ra=1:x:[@b;\nEb=2:y\n"},
		{"Ra=1:x:?@b;,2:y:@a;\nUb=1:x:n,2:y:@a;\n", "Ra=1:x:?@b;,2:y:@a;\nUb=1:x:n\n"},
		{"Ra=1:x:[@b;,2:y:[@a;\nEb=1:x\n", "Rb=1:x:[@a;,2:y:[@b;\nEa=1:x,2:y\n"},
	} {
		kind, old := "@"+c.newer[1:2]+";", "@"+c.older[1:2]+";"
		p := pairRead(t, c.newer, c.older)
		checkLikeSlowEvolve(t, p, kind, old)
		if p.reads(kind, old) == p.turned().reads(old, kind) {
			t.Errorf("%q and %q read each other both ways, or none", c.newer, c.older)
		}
		checkBoth(t, c.newer, kind, c.older, old, false)
		checkBoth(t, c.older, old, c.newer, kind, false)
	}
}

func TestEvolveOfNoSchema(t *testing.T) {
	kinds := []string{"n", "t", "f", "[n", "?n", "@a;", "@b;", "[@a;"}
	for _, s := range notSchemas {
		for _, kind := range kinds {
			checkNoEvolve(t, s, kind, plainSchema, kind, "0", "''", "no", "[]", "-", "{}", "{1=7}", "<1=0>", "#1", "")
			checkNoEvolve(t, s, kind, s, kind, "0", "''", "no", "[]", "-", "{}", "")
		}
	}
	for _, c := range liftCases {
		for _, end := range []string{"\n", "x", "Rzz=1:a:@yy;\n", strings.Repeat("Rzz=\n", 100)} {
			checkNoEvolve(t, c.newer+end, c.kind, c.older, c.old, c.text, c.lifted)
			checkNoEvolve(t, c.newer, c.kind, c.older+end, c.old, c.text, c.lifted)
		}
	}
}

func TestEvolveOfNoKind(t *testing.T) {
	kinds := append([]string{"@x;", "[@x;", "?@x;", "??@xyz;", "@ab;", "[[[[[[[[[[[[n", "????????????f", strings.Repeat("[", 1<<16) + "n"}, notKinds...)
	for _, kind := range kinds {
		checkNoEvolve(t, plainSchema, kind, plainSchema, kind, someParts...)
		checkNoEvolve(t, plainSchema, kind, "", "n", "0", "1", "")
		for _, old := range []string{"n", "[n", "?n", "@a;", "@b;", "@c;"} {
			checkNoEvolve(t, plainSchema, kind, plainSchema, old, "0", "[]", "-", "{}", "<1=0>", "#1", "")
		}
	}
	// A type of the one schema is none of the other one.
	checkNoEvolve(t, "Ra=\n", "@b;", "Rb=\n", "@b;", "{}")
	checkNoEvolve(t, "Ra=\n", "@a;", "Rb=\n", "@a;", "{}")
	checkNoEvolve(t, "Ra=\n", "[@b;", "Rb=\n", "[@a;", "[]", "[{}]")
	checkNoEvolve(t, "", "[@a;", "", "[@a;", "[]")
}

func TestEvolveLiftOfNoValue(t *testing.T) {
	for _, c := range notValues {
		for _, s := range c.texts {
			checkLift(t, c.schema, c.kind, c.schema, c.kind, s, "", false)
		}
	}
	// Values of the newer kind that are none of the older one, and the empty text.
	for _, c := range []struct{ newer, kind, older, old, text string }{
		{"Ea=1:x,2:y\n", "@a;", "Ea=1:x\n", "@a;", "#2"},
		{"Ua=1:x:n,2:y:t\n", "@a;", "Ua=1:x:n\n", "@a;", "<2=''>"},
		{"Ra=1:x:n,2:y:t\n", "@a;", "Ra=1:x:n\n", "@a;", "{2='a'}"},
		{"Ra=1:x:n,2:y:t\n", "@a;", "Ra=1:x:n\n", "@a;", "{1=7,2='a'}"},
		{"Ra=\n", "@a;", "Ra=1:x:n=5\n", "@a;", "{1=5}"},
		{"Ra=\n", "@a;", "Ra=1:x:n=5\n", "@a;", "{1=05}"},
		{"Ra=\n", "@a;", "Ra=1:x:n\n", "@a;", "{2=5}"},
		{"Ra=\n", "@a;", "Ra=1:x:n\n", "@a;", "{1=''}"},
		{"Ra=1:x:n\n", "@a;", "Ra=1:x:n\n", "@a;", "{1=7,2=8}"},
		{newerSchema, "@r;", olderSchema, "@r;", "{8=''}"},
		{newerSchema, "@r;", olderSchema, "@r;", "{3={9=yes}}"},
		{newerSchema, "@r;", olderSchema, "@r;", "{9=5}"},
		{"Ra=1:x:@u;\nUu=1:x:n,2:y:t\n", "@a;", "Ra=1:x:@u;\nUu=1:x:n\n", "@a;", "{1=<2=''>}"},
	} {
		checkReads(t, c.newer, c.kind, c.older, c.old, true)
		checkLift(t, c.newer, c.kind, c.older, c.old, c.text, "", false)
		checkLift(t, c.newer, c.kind, c.older, c.old, "", "", false)
	}
	for _, c := range liftCases {
		checkLift(t, c.newer, c.kind, c.older, c.old, "", "", false)
		checkLift(t, c.newer, c.kind, c.older, c.old, c.text+" ", "", false)
		checkLift(t, c.newer, c.kind, c.older, c.old, " "+c.text, "", false)
	}
}

func TestEvolveLiftDeepTop(t *testing.T) {
	repeat := strings.Repeat
	// Without the field 5 of n a row of records ends in nothing; with other names it is as it was.
	without := strings.Replace(deepSchema, "5:v:t,", "", 1)
	renamed := strings.ReplaceAll(strings.ReplaceAll(deepSchema, ":@n;", ":@rn;"), "Rn=", "Rrn=")
	renamed = strings.ReplaceAll(strings.ReplaceAll(renamed, "[@n;", "[@rn;"), "?@n;", "?@rn;")
	for n := range 20 {
		for _, look := range []struct {
			text, lifted string
			deep         int
		}{
			{repeat("{1=", n) + "{5='a'}" + repeat("}", n), "{}", n + 2},
			{repeat("{2=+", n) + "{5='a'}" + repeat("}", n), repeat("{2=+", n) + "{}" + repeat("}", n), 2*n + 2},
			{repeat("{3=[", n) + "{5='a'}" + repeat("]}", n), repeat("{3=[", n) + "{}" + repeat("]}", n), 2*n + 2},
			{repeat("{4=<3=", n) + "{5='a'}" + repeat(">}", n), repeat("{4=<3=", n) + "{}" + repeat(">}", n), 2*n + 2},
			{"{6=" + repeat("[", n) + repeat("]", n) + "}", "", n + 1},
		} {
			if look.lifted == "" {
				if n < 2 || n > 11 {
					continue
				}
				look.lifted = look.text
			}
			if look.deep > 12 {
				checkLift(t, without, "@n;", deepSchema, "@n;", look.text, "", false)
				checkLift(t, renamed, "@rn;", deepSchema, "@n;", look.text, "", false)
				continue
			}
			checkLift(t, without, "@n;", deepSchema, "@n;", look.text, look.lifted, true)
			checkLift(t, renamed, "@rn;", deepSchema, "@n;", look.text, look.text, true)
			checkLikeSlowLift(t, pairRead(t, without, deepSchema), "@n;", "@n;", look.text)
		}
	}
	checkLift(t, "", "[[[[[[[[[[[n", "", "[[[[[[[[[[[n", "[[[[[[[[[[[5]]]]]]]]]]]", "[[[[[[[[[[[5]]]]]]]]]]]", true)
	checkLift(t, "", "???????????f", "", "???????????f", "+++++++++++yes", "+++++++++++yes", true)
}

func TestEvolveLiftValueTop(t *testing.T) {
	const older = "Ra=1:x:[[t,2:y:n\nRb=1:x:@a;\n"
	for _, look := range []struct {
		newer   string
		hasText bool
	}{
		{"Ra=1:p:[[t,2:q:n,3:r:f\nRb=1:x:@a;\n", true}, {"Ra=1:x:[[t,3:y:t\nRb=1:x:@a;\n", true}, {"Ra=2:y:n\nRb=1:x:@a;\n", false}, {"Ra=\nRb=1:x:@a;\n", false},
	} {
		p := pairRead(t, look.newer, older)
		for size := 390; size <= 402; size++ {
			s := "{1=" + longValue(size) + "}"
			want := "{}"
			if look.hasText {
				want = s
			}
			if size+4 > 400 {
				want = ""
			}
			checkLift(t, look.newer, "@a;", older, "@a;", s, want, want != "")
			if isLifted := checkLikeSlowLift(t, p, "@b;", "@b;", "{1="+s+"}"); isLifted != (size+8 <= 400) {
				t.Errorf("a value of %d bytes is lifted: %v", size+8, isLifted)
			}
			if isLifted := checkLikeSlowLift(t, p, "@a;", "@a;", s[:len(s)-1]+",2=7}"); isLifted != (size+8 <= 400) {
				t.Errorf("a value of %d bytes is lifted: %v", size+8, isLifted)
			}
		}
	}
	for size := 390; size <= 402; size++ {
		s := longValue(size)
		want := s
		if size > 400 {
			want = ""
		}
		checkLift(t, "", "[[t", "", "[[t", s, want, want != "")
	}
}

// TestEvolveMostTypes asks for as many pairs of types as two schemas may have, all of which lead to others.
func TestEvolveMostTypes(t *testing.T) {
	ring := func(n int, step int, last string) string {
		return linesOf(n, func(i int) string {
			end := ":n"
			if i == n-1 {
				end = last
			}
			return "R" + letter(i) + "=1:a:@" + letter((i+1)%n) + ";,2:b:@" + letter((i+step)%n) + ";,3:c:[@a;,4:d" + end
		})
	}
	for n := 1; n <= 8; n++ {
		for m := 1; m <= 8; m++ {
			for _, last := range []string{":n", ":t", ":n=5"} {
				newer, older := ring(n, 3, ":n"), ring(m, 2, last)
				// The last type is reached from each other one, so that it tells no for all of them.
				want := last == ":n"
				for _, kinds := range [][2]string{{"@a;", "@a;"}, {"[@a;", "[@a;"}, {"@" + letter(n-1) + ";", "@a;"}, {"@a;", "@" + letter(m-1) + ";"}} {
					if checkLikeSlowEvolve(t, pairRead(t, newer, older), kinds[0], kinds[1]) != want {
						t.Errorf("%q of %q reads %q of %q: %v", kinds[0], newer, kinds[1], older, !want)
					}
				}
				if s := "{3=[{3=[{}]}]}"; want {
					checkLift(t, newer, "@a;", older, "@a;", s, s, true)
				} else {
					checkLift(t, newer, "@a;", older, "@a;", s, "", false)
				}
			}
		}
	}
}

func TestEvolveVeryLong(t *testing.T) {
	many := 1 << 20
	repeat := strings.Repeat
	longs := []string{repeat("[", many) + "n", repeat("@a;", many), repeat("Ra=\n", many), "Ra=1:x:" + repeat("[", many) + "n\n", repeat("{1=", many), repeat("\x00", many)}
	for _, s := range longs {
		head := s[:10]
		if impl.EvolveReads(s, "n", "", "n") || impl.EvolveReads("", s, "", "n") || impl.EvolveReads("", "n", s, "n") || impl.EvolveReads("", "n", "", s) {
			t.Errorf("a text of %d bytes that begins with %q is read", len(s), head)
		}
		if impl.EvolveBoth(s, "n", s, "n") || impl.EvolveBoth("", s, "", s) {
			t.Errorf("texts of %d bytes that begin with %q read each other", len(s), head)
		}
		for _, kind := range []string{"n", "[n", "?n", "@n;", "@d;"} {
			lifted, ok := impl.EvolveLift(deepSchema, kind, deepSchema, kind, s)
			if lost, told := impl.EvolveLost(deepSchema, kind, deepSchema, kind, s); lifted != "" || ok || lost || told {
				t.Errorf("a text of %d bytes that begins with %q is lifted", len(s), head)
			}
		}
	}
}

func TestPromise37EvolveReadsItself(t *testing.T) {
	asked := 0
	for _, s := range someSchemas() {
		names, _ := impl.SchemaTypes(s)
		kinds := []string{"n", "t", "f", "[n", "?[t"}
		for _, name := range names {
			kinds = append(kinds, "@"+name+";", "[@"+name+";", "?@"+name+";", "[??@"+name+";")
		}
		ok := impl.SchemaOk(s)
		for _, kind := range kinds {
			checkReads(t, s, kind, s, kind, ok)
			if ok {
				asked++
			}
		}
	}
	if asked < 5000 {
		t.Errorf("only %d kinds read themselves", asked)
	}
}

func TestPromise38EvolveLiftIsWhatBytesGetReads(t *testing.T) {
	lost := 0
	for _, v := range someLifts(t, 4000) {
		lifted, ok := impl.EvolveLift(v.newer.text, v.kind, v.older.text, v.old, v.text)
		if !ok || !impl.ValueOk(v.newer.text, v.kind, lifted) {
			t.Errorf("EvolveLift(%q, %q, %q, %q, %q) = %q, %v, and no value", v.newer.text, v.kind, v.older.text, v.old, v.text, lifted, ok)
		}
		form, _ := impl.BytesPut(v.older.text, v.old, v.text)
		checkGet(t, v.newer.text, v.kind, form, lifted, true)
		if lifted != v.text {
			lost++
		}
	}
	if lost < 1000 {
		t.Errorf("only %d values lose something", lost)
	}
}

func TestPromise39EvolveBothInEitherOrder(t *testing.T) {
	both, one := 0, 0
	for _, p := range somePairs(t, 4000) {
		first := impl.EvolveBoth(p.newer.text, p.kind, p.older.text, p.old)
		checkBoth(t, p.older.text, p.old, p.newer.text, p.kind, first)
		there := impl.EvolveReads(p.newer.text, p.kind, p.older.text, p.old)
		back := impl.EvolveReads(p.older.text, p.old, p.newer.text, p.kind)
		if first != (there && back) {
			t.Errorf("EvolveBoth(%q, %q, %q, %q) = %v, there %v, back %v", p.newer.text, p.kind, p.older.text, p.old, first, there, back)
		}
		if first {
			both++
		} else if there || back {
			one++
		}
	}
	if both < 1000 || one < 300 {
		t.Errorf("%d kinds read each other, %d only one way", both, one)
	}
}

func TestPromise40EvolveLost(t *testing.T) {
	lost, back := 0, 0
	for _, v := range someLifts(t, 4000) {
		lifted, _ := impl.EvolveLift(v.newer.text, v.kind, v.older.text, v.old, v.text)
		isLost, ok := impl.EvolveLost(v.newer.text, v.kind, v.older.text, v.old, v.text)
		if !ok || isLost != (lifted != v.text) {
			t.Errorf("EvolveLost(%q, %q, %q, %q, %q) = %v, %v, lifted it is %q", v.newer.text, v.kind, v.older.text, v.old, v.text, isLost, ok, lifted)
		}
		if isLost {
			lost++
		} else if v.both {
			back++
			checkLift(t, v.older.text, v.old, v.newer.text, v.kind, lifted, v.text, true)
		}
	}
	if lost < 1000 || back < 1000 {
		t.Errorf("%d values lose something, %d are lifted back", lost, back)
	}
}

func TestPromise41PlainFieldsAreTheSame(t *testing.T) {
	told, untold := 0, 0
	for _, v := range someLifts(t, 6000) {
		now, isRecord := recordOf(v.newer, v.kind)
		was, _ := recordOf(v.older, v.old)
		if !isRecord {
			continue
		}
		lifted, _ := impl.EvolveLift(v.newer.text, v.kind, v.older.text, v.old, v.text)
		for _, f := range was.fields {
			if _, found := fieldOf(now, f.tag); !found || plainValues[f.kind] == nil {
				continue
			}
			part, ok := impl.ValueField(v.older.text, v.old, v.text, f.tag)
			checkField(t, v.newer.text, v.kind, lifted, f.tag, part, ok)
			if part != f.stand {
				told++
			} else {
				untold++
			}
		}
	}
	if told < 500 || untold < 500 {
		t.Errorf("%d plain fields of both records are told, %d are not", told, untold)
	}
}

func TestPromise42ThereAndBackAndThere(t *testing.T) {
	lost := 0
	for _, v := range someLifts(t, 6000) {
		if !impl.EvolveBoth(v.newer.text, v.kind, v.older.text, v.old) {
			continue
		}
		there, _ := impl.EvolveLift(v.newer.text, v.kind, v.older.text, v.old, v.text)
		back, ok := impl.EvolveLift(v.older.text, v.old, v.newer.text, v.kind, there)
		if !ok {
			t.Errorf("EvolveLift(%q, %q, %q, %q, %q) fails", v.older.text, v.old, v.newer.text, v.kind, there)
		}
		checkLift(t, v.newer.text, v.kind, v.older.text, v.old, back, there, true)
		if there != v.text {
			lost++
		}
	}
	if lost < 1000 {
		t.Errorf("only %d values lose something", lost)
	}
}

func TestPromise43ListsAndWhatMayBeThere(t *testing.T) {
	reads, others := 0, 0
	for _, p := range somePairs(t, 3000) {
		ok := impl.EvolveReads(p.newer.text, p.kind, p.older.text, p.old)
		for _, sign := range []string{"[", "?"} {
			// Behind the sign there may be no room for a kind that has KindTop bytes.
			if len(p.kind) < 12 && len(p.old) < 12 {
				checkReads(t, p.newer.text, sign+p.kind, p.older.text, sign+p.old, ok)
			} else {
				checkReads(t, p.newer.text, sign+p.kind, p.older.text, sign+p.old, false)
			}
		}
		checkReads(t, p.newer.text, "["+p.kind, p.older.text, "?"+p.old, false)
		if ok {
			reads++
		} else {
			others++
		}
	}
	if reads < 1000 || others < 500 {
		t.Errorf("%d kinds read others, %d do not", reads, others)
	}
}
