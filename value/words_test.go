package value_test

import (
	"fmt"
	"slices"
	"testing"

	"redress/api"
	"redress/check"
	"redress/idl"
	"redress/prints"
	"redress/value"
)

// tree is a whole with its parts.
type tree struct {
	n    api.Node
	kids []tree
}

// grow is the whole at the beginning of a row of parts, and what stands behind it.
func grow(v api.Value) (whole tree, rest api.Value, ok bool) {
	if len(v) == 0 || v[0].Kids < 0 {
		return tree{}, nil, false
	}
	whole, rest = tree{n: v[0]}, v[1:]
	for range v[0].Kids {
		var kid tree
		if kid, rest, ok = grow(rest); !ok {
			return tree{}, nil, false
		}
		whole.kids = append(whole.kids, kid)
	}
	return whole, rest, true
}

func (x tree) flat() api.Value {
	v := api.Value{x.n}
	for _, k := range x.kids {
		v = append(v, k.flat()...)
	}
	return v
}

// depth, parts and size are as the chapter words them.
func (x tree) depth() int {
	d := 0
	for _, k := range x.kids {
		d = max(d, k.depth())
	}
	return d + 1
}

func (x tree) parts() int {
	n := 1
	for _, k := range x.kids {
		n += k.parts()
	}
	return n
}

func (x tree) size() int {
	n := 1 + len(x.n.Text)
	for _, k := range x.kids {
		n += k.size()
	}
	return n
}

// ofType says whether a whole is of a type.
func (x tree) ofType(s api.Schema, t []api.Sort) bool {
	n := x.n
	if n.Kind != api.VText && n.Text != "" {
		return false
	}
	if n.Kind != api.VBool && n.Kind != api.VInt && n.Kind != api.VChoice && n.Int != 0 {
		return false
	}
	of := func(t []api.Sort) bool {
		return !slices.ContainsFunc(x.kids, func(k tree) bool { return !k.ofType(s, t) })
	}
	switch t[0].Kind {
	case api.TNone:
		return n.Kind == api.VNone && n.Kids == 0
	case api.TBool:
		return n.Kind == api.VBool && n.Kids == 0 && (n.Int == 0 || n.Int == 1)
	case api.TInt:
		return n.Kind == api.VInt && n.Kids == 0
	case api.TText:
		return n.Kind == api.VText && n.Kids == 0
	case api.TList:
		return n.Kind == api.VList && of(t[1:])
	case api.TOpt:
		return n.Kind == api.VOpt && n.Kids < 2 && of(t[1:])
	}
	r := recordOf(s, t[0].Name)
	if r.Choice {
		return n.Kind == api.VChoice && n.Kids == 1 && n.Int >= 0 && n.Int < int64(len(r.Fields)) && of(r.Fields[n.Int].Type)
	}
	ok := n.Kind == api.VRecord && n.Kids == len(r.Fields)
	for i, f := range r.Fields {
		ok = ok && x.kids[i].ofType(s, f.Type)
	}
	return ok
}

// recordOf is the first record or choice of a name.
func recordOf(s api.Schema, name string) api.Record {
	for _, r := range s.Records {
		if r.Name == name {
			return r
		}
	}
	return api.Record{}
}

// typeByWords says whether a type is right, in a right schema.
func typeByWords(s api.Schema, t []api.Sort) bool {
	if prints.Type(t) == "" {
		return false
	}
	last := t[len(t)-1]
	return last.Kind != api.TNamed || recordOf(s, last.Name).Name == last.Name
}

// rightByWords is what all calls ask ahead of the value.
func rightByWords(s api.Schema, t []api.Sort) api.Errno {
	if _, e := check.Check(s); e != api.OK {
		return e
	}
	if !typeByWords(s, t) {
		return api.ErrType
	}
	return api.OK
}

// fitsByWords is Fits as the chapter words it.
func fitsByWords(s api.Schema, t []api.Sort, v api.Value) api.Errno {
	if e := rightByWords(s, t); e != api.OK {
		return e
	}
	x, rest, ok := grow(v)
	switch {
	case !ok, len(rest) > 0, !x.ofType(s, t):
		return api.ErrValue
	case x.depth() > 12:
		return api.ErrDeep
	case x.parts() > 4096, x.size() > 4096:
		return api.ErrLong
	}
	return api.OK
}

// endByWords is End as the chapter words it.
func endByWords(v api.Value, at int) int {
	if at < 0 || at >= len(v) {
		return -1
	}
	_, rest, ok := grow(v[at:])
	if !ok {
		return -1
	}
	return len(v) - len(rest)
}

// lowest knows which types have a value of so many parts around one another, by the records' names and that number.
type lowest struct {
	s     api.Schema
	known map[string]map[int]bool
}

func (l *lowest) has(t []api.Sort, depth int) bool {
	if depth < 1 {
		return false
	}
	if t[0].Kind != api.TNamed {
		return true
	}
	name := t[0].Name
	if has, ok := l.known[name][depth]; ok {
		return has
	}
	r := recordOf(l.s, name)
	has := !r.Choice
	for _, f := range r.Fields {
		part := l.has(f.Type, depth-1)
		if r.Choice {
			has = has || part
		} else {
			has = has && part
		}
	}
	if l.known[name] == nil {
		l.known[name] = map[int]bool{}
	}
	l.known[name][depth] = has
	return has
}

// depth is the least depth of a type's values.
func (l *lowest) depth(t []api.Sort) int {
	d := 1
	for !l.has(t, d) {
		d++
	}
	return d
}

// value is the least one of a type, nothing of one that would have more than so many parts.
func (l *lowest) value(t []api.Sort, most int) api.Value {
	kind := map[byte]byte{api.TNone: api.VNone, api.TBool: api.VBool, api.TInt: api.VInt, api.TText: api.VText, api.TList: api.VList, api.TOpt: api.VOpt}
	if most < 1 {
		return nil
	}
	if t[0].Kind != api.TNamed {
		return api.Value{{Kind: kind[t[0].Kind]}}
	}
	r := recordOf(l.s, t[0].Name)
	if r.Choice {
		for i, f := range r.Fields {
			if l.has(f.Type, l.depth(t)-1) {
				return whole(api.Node{Kind: api.VChoice, Int: int64(i), Kids: 1}, l.value(f.Type, most-1))
			}
		}
	}
	v := api.Value{{Kind: api.VRecord, Kids: len(r.Fields)}}
	for _, f := range r.Fields {
		part := l.value(f.Type, most-len(v))
		if part == nil {
			return nil
		}
		v = append(v, part...)
	}
	return v
}

// whole is a part ahead of another one, nothing if there is no other one.
func whole(n api.Node, part api.Value) api.Value {
	if part == nil {
		return nil
	}
	return append(api.Value{n}, part...)
}

// leastByWords is Least as the chapter words it.
func leastByWords(s api.Schema, t []api.Sort) (api.Value, api.Errno) {
	if e := rightByWords(s, t); e != api.OK {
		return nil, e
	}
	l := lowest{s, map[string]map[int]bool{}}
	if l.depth(t) > 12 {
		return nil, api.ErrDeep
	}
	v := l.value(t, 4096)
	if v == nil {
		return nil, api.ErrLong
	}
	return v, api.OK
}

// fieldByWords is Field as the chapter words it.
func fieldByWords(s api.Schema, record string, v api.Value, field string) (api.Value, bool) {
	if fitsByWords(s, typeOf(record), v) != api.OK || recordOf(s, record).Choice {
		return nil, false
	}
	x, _, _ := grow(v)
	for i, f := range recordOf(s, record).Fields {
		if f.Name == field {
			return x.kids[i].flat(), true
		}
	}
	return nil, false
}

// ordered is what Order answers.
type ordered struct {
	account string
	amount  int64
	ok      bool
}

// orderByWords is Order as the chapter words it.
func orderByWords(s api.Schema, record string, v api.Value) ordered {
	for _, f := range recordOf(s, record).Fields {
		if f.Name == "account" && !slices.Equal(f.Type, sorts("text")) || f.Name == "amount" && !slices.Equal(f.Type, sorts("int")) {
			return ordered{}
		}
	}
	a, isThere := fieldByWords(s, record, v, "account")
	n, isToo := fieldByWords(s, record, v, "amount")
	if !isThere || !isToo {
		return ordered{}
	}
	return ordered{a[0].Text, n[0].Int, true}
}

// fits says where Fits answers something else than the words, or than e.
func fits(t *testing.T, s api.Schema, l []api.Sort, v api.Value, e api.Errno) {
	t.Helper()
	if got := asked(t, s, l, v); got != e {
		t.Fatalf("%s of %s: %d, not %d", short(v), short(l), got, e)
	}
}

// asked is what Fits answers, which is what the words ask.
func asked(t *testing.T, s api.Schema, l []api.Sort, v api.Value) api.Errno {
	t.Helper()
	got, worded := value.Fits(s, l, v), fitsByWords(s, l, v)
	if got != worded {
		t.Fatalf("%s of %s in %s: %d, by the words %d", short(v), short(l), short(s), got, worded)
	}
	return got
}

// leastOf is what Least answers, which is what the words ask, and fits.
func leastOf(t *testing.T, s api.Schema, l []api.Sort) (api.Value, api.Errno) {
	t.Helper()
	got, e := value.Least(s, l)
	worded, f := leastByWords(s, l)
	if e != f || !slices.Equal(got, worded) {
		t.Fatalf("least of %s in %s: %d, %s; by the words %d, %s", short(l), short(s), e, short(got), f, short(worded))
	}
	if e == api.OK {
		fits(t, s, l, got, api.OK)
	}
	return got, e
}

// parted says where Field or Order of a value answers something else than the words.
func parted(t *testing.T, s api.Schema, record string, v api.Value, fields ...string) {
	t.Helper()
	for _, f := range recordOf(s, record).Fields {
		fields = append(fields, f.Name)
	}
	for _, field := range append(fields, "", "account", "amount", record) {
		got, ok := value.Field(s, record, v, field)
		worded, has := fieldByWords(s, record, v, field)
		if ok != has || !slices.Equal(got, worded) {
			t.Fatalf("field %s of %s in %s: %t, %s; by the words %t, %s", field, record, short(v), ok, short(got), has, short(worded))
		}
	}
	var got ordered
	got.account, got.amount, got.ok = value.Order(s, record, v)
	if worded := orderByWords(s, record, v); got != worded {
		t.Fatalf("order of %s in %s: %v, by the words %v", record, short(v), got, worded)
	}
}

// ends says where End answers something else than the words, at each place and at none.
func ends(t *testing.T, v api.Value) {
	t.Helper()
	for at := -2; at < len(v)+3; at++ {
		if got, worded := value.End(v, at), endByWords(v, at); got != worded {
			t.Fatalf("behind %d in %s: %d, by the words %d", at, short(v), got, worded)
		}
	}
}

func read(t *testing.T, text string) api.Schema {
	t.Helper()
	s, at, e := idl.Parse(text)
	if e != api.OK {
		t.Fatalf("%s: error %d at %d", text, e, at)
	}
	return s
}

// sorts are those of a type's text.
func sorts(text string) []api.Sort {
	t, at, e := idl.Type(text)
	if e != api.OK {
		panic(fmt.Sprint(text, at, e))
	}
	return t
}

// typeOf is the type that is one name alone, whatever name that is.
func typeOf(name string) []api.Sort { return []api.Sort{{Kind: api.TNamed, Name: name}} }

// short is the beginning of what a thing looks like.
func short(x any) string { return fmt.Sprintf("%.500s", fmt.Sprintf("%+v", x)) }
