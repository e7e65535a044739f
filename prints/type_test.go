package prints

import (
	"slices"
	"strconv"
	"strings"
	"testing"

	"redress/api"
	"redress/idl"
)

// P14.2

func TestTypes(t *testing.T) {
	typed(t, kinds(api.TNone), "none")
	typed(t, kinds(api.TBool), "bool")
	typed(t, kinds(api.TInt), "int")
	typed(t, kinds(api.TText), "text")
	typed(t, kinds(api.TList, api.TInt), "list int")
	typed(t, kinds(api.TOpt, api.TList, api.TOpt, api.TNone), "opt list opt none")
	typed(t, named("R"), "R")
	typed(t, named("list_"), "list_")
	typed(t, named("List", api.TList, api.TOpt), "list opt List")
	typed(t, named(strings.Repeat("w", 32), api.TOpt), "opt "+strings.Repeat("w", 32))
	typed(t, named(strings.Repeat("w", 32), slices.Repeat([]byte{api.TList}, 11)...), strings.Repeat("list ", 11)+strings.Repeat("w", 32))
}

func TestNoTypes(t *testing.T) {
	typed(t, nil, "")
	typed(t, []api.Sort{}, "")
	typed(t, kinds(api.TList), "")
	typed(t, kinds(api.TList, api.TOpt), "")
	typed(t, kinds(api.TInt, api.TInt), "")
	typed(t, kinds(api.TNone, api.TList), "")
	typed(t, kinds(api.TNone, api.TList, api.TInt), "")
	typed(t, append(named("R"), kinds(api.TInt)...), "")
	typed(t, append(named("list"), kinds(api.TInt)...), "")
	typed(t, append(named("R"), named("R")...), "")
	typed(t, append(named(""), kinds(api.TInt)...), "")
	typed(t, append(kinds(api.TList), named("")...), "")
	typed(t, append(kinds(api.TInt), named("")...), "")
}

// A sort of each number that may be, alone, and at each place of a type.
func TestKindsOfSorts(t *testing.T) {
	for k := range 256 {
		kind := byte(k)
		word, plain, about := sortWords[kind], kind >= api.TNone && kind <= api.TText, kind == api.TList || kind == api.TOpt
		when := func(right bool, text string) string {
			if right {
				return text
			}
			return ""
		}
		typed(t, kinds(kind), when(plain, word))
		typed(t, kinds(kind, api.TInt), when(about, word+" int"))
		typed(t, kinds(kind, kind), "")
		typed(t, kinds(api.TList, kind), when(plain, "list "+word))
		typed(t, kinds(api.TOpt, kind, api.TText), when(about, "opt "+word+" text"))
		typed(t, kinds(api.TInt, kind), "")
		typed(t, named("R", kind), when(about, word+" R"))
		for _, name := range []string{"R", "int", "list", "text", " ", "//", "\n", "R//", strconv.Itoa(k), word} {
			if name != "" {
				typed(t, []api.Sort{{Kind: kind, Name: name}}, when(kind == api.TNamed && name == "R", "R"))
				typed(t, []api.Sort{{Kind: api.TOpt}, {Kind: kind, Name: name}}, when(kind == api.TNamed && name == "R", "opt R"))
				typed(t, []api.Sort{{Kind: kind, Name: name}, {Kind: api.TInt}}, "")
				typed(t, []api.Sort{{Kind: api.TList}, {Kind: kind, Name: name}, {Kind: api.TInt}}, "")
			}
		}
	}
}

func TestNamesOfTypes(t *testing.T) {
	for _, name := range []string{"R", "a", "m", "Z9_", "x_", "List", "modules", "undo_", "noname", "account", strings.Repeat("w", 31), strings.Repeat("w", 32)} {
		typed(t, named(name), name)
		typed(t, named(name, api.TOpt, api.TOpt), "opt opt "+name)
	}
	wrong := []string{"", "_a", "1", "1a", "a b", " a", "a ", "a\n", "\na", "a\t", "a-b", "a.b", ".", ";", "a;", "a//", "a //", "a//b", "//\na", "// \n a", "->", "a\x00", "\x00", "\xff", "\u00e4", "a\u00e4", "list int", "list R", "opt", "int int", strings.Repeat("w", 33), strings.Repeat("w", 70000), "a" + strings.Repeat(" ", 70000), strings.Repeat("9", 33)}
	for _, name := range append(wrong, keywords...) {
		typed(t, named(name), "")
		typed(t, named(name, api.TList), "")
		typed(t, named(name, api.TOpt, api.TList, api.TList), "")
	}
}

func TestLongTypes(t *testing.T) {
	for n := range 40 {
		for _, about := range []byte{api.TList, api.TOpt} {
			l, want := append(slices.Repeat(kinds(about), n), kinds(api.TText)...), strings.Repeat(sortWords[about]+" ", n)+"text"
			r, named := append(slices.Repeat(kinds(about), n), named("R")...), strings.Repeat(sortWords[about]+" ", n)+"R"
			if n >= 12 {
				want, named = "", ""
			}
			typed(t, l, want)
			typed(t, r, named)
			typed(t, l[:n], "")
		}
	}
	typed(t, slices.Repeat(kinds(api.TList), 1000000), "")
	typed(t, slices.Repeat(named(strings.Repeat("w", 100000)), 1000), "")
}

// Each list of up to four sorts of a few.
func TestAllShortTypes(t *testing.T) {
	sorts := []api.Sort{{}, {Kind: 8}, {Kind: api.TNone}, {Kind: api.TInt}, {Kind: api.TList}, {Kind: api.TOpt}, {Kind: api.TNamed},
		{Kind: api.TNamed, Name: "R"}, {Kind: api.TNamed, Name: "list"}, {Kind: api.TNamed, Name: "int"}, {Kind: api.TNamed, Name: "//"}, {Kind: api.TNamed, Name: "opt R"},
		{Kind: api.TList, Name: "R"}, {Kind: api.TOpt, Name: "opt"}, {Kind: api.TInt, Name: "int"}, {Kind: 8, Name: "int"}, {Name: "R"}}
	types := 0
	var grow func(l []api.Sort)
	grow = func(l []api.Sort) {
		text := typeByWords(l)
		typed(t, l, text)
		if text != "" {
			types++
		}
		if len(l) < 4 {
			for _, s := range sorts {
				grow(append(l[:len(l):len(l)], s))
			}
		}
	}
	grow(nil)
	if types != 3*(1+2+4+8) {
		t.Errorf("%d types", types)
	}
}

// P14.3

// What is read of a type's text is that type, and no other type has that text.
func TestTypesAreReadBack(t *testing.T) {
	seen := map[string]bool{}
	for n := range 12 {
		for abouts := range 1 << n {
			for _, last := range []api.Sort{{Kind: api.TNone}, {Kind: api.TBool}, {Kind: api.TInt}, {Kind: api.TText}, {Kind: api.TNamed, Name: "R"}, {Kind: api.TNamed, Name: "Text"}} {
				var l []api.Sort
				for i := range n {
					l = append(l, api.Sort{Kind: api.TList + byte(abouts>>i&1)})
				}
				l = append(l, last)
				text := Type(l)
				if back, at, e := idl.Type(text); e != api.OK || !slices.Equal(back, l) {
					t.Fatalf("%s: %s, error %d at %d", short(l), text, e, at)
				}
				if seen[text] {
					t.Fatalf("%s: two types have this text", text)
				}
				seen[text] = true
			}
		}
	}
}
