package prints

import (
	"math/rand/v2"
	"slices"
	"strconv"
	"strings"
	"testing"

	"redress/api"
	"redress/check"
)

func pick[T any](r *rand.Rand, l []T) T { return l[r.IntN(len(l))] }

// namer tells names of its own, one after the other.
type namer struct {
	r *rand.Rand
	n int
}

func (n *namer) name() string {
	n.n++
	return pick(n.r, []string{"a", "R", "list", "Z_", "module_", strings.Repeat("w", 28)}) + strconv.Itoa(n.n)
}

// aType ends in a plain sort, or in one of these names. Plainly named types are of the first few alone, which have a value.
func aType(r *rand.Rand, names []string, finite int) []api.Sort {
	t := kinds(slices.Repeat([]byte{api.TList}, max(0, r.IntN(16)-4))...)
	for i := range t {
		t[i].Kind = pick(r, []byte{api.TList, api.TOpt})
	}
	if len(t) == 0 {
		names = names[:finite]
	}
	if len(names) > 0 && r.IntN(2) == 0 {
		return append(t, api.Sort{Kind: api.TNamed, Name: pick(r, names)})
	}
	return append(t, api.Sort{Kind: pick(r, []byte{api.TNone, api.TBool, api.TInt, api.TText})})
}

// drawnRecords are right, and the first few of them are order records.
func drawnRecords(r *rand.Rand, n *namer, orders int) []api.Record {
	l := make([]api.Record, orders+r.IntN(5))
	var names []string
	for range l {
		names = append(names, n.name())
	}
	for i := range l {
		d := &l[i]
		d.Name, d.Choice = names[i], i >= orders && r.IntN(2) == 0
		for range r.IntN(5) {
			d.Fields = append(d.Fields, api.Field{Name: n.name(), Type: aType(r, names, i)})
		}
		if d.Choice {
			d.Fields = append(d.Fields, api.Field{Name: n.name(), Type: aType(r, names, len(names))}, api.Field{Name: n.name(), Type: aType(r, names, i)})
		}
		if i < orders {
			d.Fields = append(d.Fields, api.Field{Name: "account", Type: kinds(api.TText)}, api.Field{Name: "amount", Type: kinds(api.TInt)})
		}
		shuffle(r, d.Fields)
	}
	return l
}

func shuffle[T any](r *rand.Rand, l []T) {
	r.Shuffle(len(l), func(a, b int) { l[a], l[b] = l[b], l[a] })
}

func drawnService(r *rand.Rand, n *namer, orders []api.Record) api.Service {
	v := api.Service{Name: n.name()}
	for range r.IntN(4) {
		effect := pick(r, []string{"give", "take", "note"})
		m := api.Method{Name: n.name(), Arg: pick(r, orders).Name, Result: pick(r, []byte{api.TInt, api.TNone}), Effect: effect}
		if r.IntN(3) > 0 {
			contrary := map[string]string{"give": "take", "take": "give", "note": "note"}
			u := api.Method{Name: n.name(), Arg: m.Arg, Result: api.TNone, Effect: contrary[effect]}
			m.Undo = u.Name
			v.Methods = append(v.Methods, u)
		}
		v.Methods = append(v.Methods, m)
	}
	shuffle(r, v.Methods)
	return v
}

// drawnSaga is one of an order record, if there are methods of that.
func drawnSaga(r *rand.Rand, n *namer, s api.Schema, arg string) []api.Saga {
	var all, undone []api.Step
	for _, v := range s.Services {
		for _, m := range v.Methods {
			p := api.Step{Service: v.Name, Method: m.Name}
			if m.Arg == arg {
				all = append(all, p)
			}
			if m.Arg == arg && m.Undo != "" {
				undone = append(undone, p)
			}
		}
	}
	if len(all) == 0 {
		return nil
	}
	g := api.Saga{Name: n.name(), Arg: arg}
	for range r.IntN(8) {
		if len(undone) > 0 {
			g.Steps = append(g.Steps, pick(r, undone))
		}
	}
	g.Steps = append(g.Steps, pick(r, all))
	for i := range g.Steps {
		g.Steps[i].At = r.IntN(4)
	}
	return []api.Saga{g}
}

// drawnRight is a schema that is right.
func drawnRight(r *rand.Rand) api.Schema {
	n := &namer{r: r}
	s := api.Schema{Name: n.name()}
	orders := r.IntN(4)
	s.Records = drawnRecords(r, n, orders)
	if orders > 0 {
		for range r.IntN(4) {
			s.Services = append(s.Services, drawnService(r, n, s.Records[:orders]))
		}
		for range r.IntN(4) {
			s.Sagas = append(s.Sagas, drawnSaga(r, n, s, pick(r, s.Records[:orders]).Name)...)
		}
	}
	shuffle(r, s.Records)
	return s
}

// whole is a copy of a schema, in lists of its own.
func whole(s api.Schema) api.Schema {
	s.Records, s.Services, s.Sagas = slices.Clone(s.Records), slices.Clone(s.Services), slices.Clone(s.Sagas)
	for i, r := range s.Records {
		s.Records[i].Fields = slices.Clone(r.Fields)
		for j, f := range r.Fields {
			s.Records[i].Fields[j].Type = slices.Clone(f.Type)
		}
	}
	for i, v := range s.Services {
		s.Services[i].Methods = slices.Clone(v.Methods)
	}
	for i, g := range s.Sagas {
		s.Sagas[i].Steps = slices.Clone(g.Steps)
	}
	return s
}

// texts are where a schema's texts stand.
func texts(s *api.Schema) []*string {
	l := []*string{&s.Name}
	for i := range s.Records {
		d := &s.Records[i]
		l = append(l, &d.Name)
		for j := range d.Fields {
			l = append(l, &d.Fields[j].Name)
			for k := range d.Fields[j].Type {
				l = append(l, &d.Fields[j].Type[k].Name)
			}
		}
	}
	for i := range s.Services {
		l = append(l, &s.Services[i].Name)
		for j := range s.Services[i].Methods {
			m := &s.Services[i].Methods[j]
			l = append(l, &m.Name, &m.Arg, &m.Effect, &m.Undo)
		}
	}
	for i := range s.Sagas {
		l = append(l, &s.Sagas[i].Name, &s.Sagas[i].Arg)
		for j := range s.Sagas[i].Steps {
			l = append(l, &s.Sagas[i].Steps[j].Service, &s.Sagas[i].Steps[j].Method)
		}
	}
	return l
}

// otherList is a list with one thing left out, or two in each other's place.
func otherList[T any](r *rand.Rand, l []T) []T {
	if len(l) == 0 {
		return nil
	}
	i, j := r.IntN(len(l)), r.IntN(len(l))
	if r.IntN(3) == 0 {
		return slices.Delete(slices.Clone(l), i, i+1)
	}
	l = slices.Clone(l)
	l[i], l[j] = l[j], l[i]
	return l
}

// change changes one thing of a schema, which may be right still.
func change(r *rand.Rand, s *api.Schema) {
	switch r.IntN(9) {
	case 0:
		*pick(r, texts(s)) = pick(r, []string{"other", "", "int", "give", "take", "note", "b b", "\xff", strings.Repeat("w", 33)})
	case 1:
		l := texts(s)
		*pick(r, l) = *pick(r, l)
	case 2:
		s.Records = otherList(r, s.Records)
	case 3:
		s.Services = otherList(r, s.Services)
	case 4:
		s.Sagas = otherList(r, s.Sagas)
	case 5, 6:
		if len(s.Records) > 0 {
			changeRecord(r, &s.Records[r.IntN(len(s.Records))])
		}
	case 7:
		if len(s.Services) > 0 {
			changeService(r, &s.Services[r.IntN(len(s.Services))])
		}
	case 8:
		if len(s.Sagas) > 0 {
			g := &s.Sagas[r.IntN(len(s.Sagas))]
			g.Steps = otherList(r, g.Steps)
			if len(g.Steps) > 0 {
				g.Steps[r.IntN(len(g.Steps))].At = r.IntN(6) - 1
			}
		}
	}
}

func changeRecord(r *rand.Rand, d *api.Record) {
	if len(d.Fields) == 0 || r.IntN(4) == 0 {
		d.Choice = !d.Choice
		return
	}
	if r.IntN(4) == 0 {
		d.Fields = otherList(r, d.Fields)
		return
	}
	f := &d.Fields[r.IntN(len(d.Fields))]
	switch r.IntN(3) {
	case 0:
		f.Type = otherList(r, f.Type)
	case 1:
		f.Type = append(kinds(pick(r, []byte{api.TList, api.TOpt})), f.Type...)
	case 2:
		if len(f.Type) > 0 {
			f.Type[r.IntN(len(f.Type))].Kind = byte(r.IntN(9))
		}
	}
}

func changeService(r *rand.Rand, v *api.Service) {
	if len(v.Methods) == 0 || r.IntN(4) == 0 {
		v.Methods = otherList(r, v.Methods)
		return
	}
	m := &v.Methods[r.IntN(len(v.Methods))]
	switch r.IntN(3) {
	case 0:
		m.Result = pick(r, []byte{api.TInt, api.TNone, byte(r.IntN(9))})
	case 1:
		m.Effect = pick(r, []string{"give", "take", "note"})
	case 2:
		m.Undo = pick(r, v.Methods).Name
	}
}

// P14.1

func TestDrawnRight(t *testing.T) {
	r := rand.New(rand.NewPCG(14, 1))
	sagas := 0
	for range 3000 {
		s := drawnRight(r)
		if a := tells(t, s); a.e != api.OK {
			t.Fatalf("%s: error %d", short(s), a.e)
		}
		sagas += len(s.Sagas)
	}
	if sagas < 1000 {
		t.Errorf("%d sagas: this tries too little", sagas)
	}
}

func TestDrawnChanged(t *testing.T) {
	r := rand.New(rand.NewPCG(14, 2))
	kinds := map[api.Errno]int{}
	for range 30000 {
		s := whole(drawnRight(r))
		for range 1 + r.IntN(3) {
			change(r, &s)
			s = whole(s)
		}
		kinds[tells(t, s).e]++
	}
	for _, e := range []api.Errno{api.OK, api.ErrWord, api.ErrMany, api.ErrTwice, api.ErrType, api.ErrBottom, api.ErrEffect, api.ErrUndo, api.ErrSaga, api.ErrStep} {
		if kinds[e] < 20 {
			t.Errorf("error %d: told %d times", e, kinds[e])
		}
	}
}

// Schemas that no text declares: any numbers and texts in all fields.
func TestDrawnOfAnything(t *testing.T) {
	r := rand.New(rand.NewPCG(14, 3))
	some := func() int { return r.IntN(4) }
	name := func() string {
		if r.IntN(90) == 0 {
			return pick(r, []string{"", "int", "a b", "\xff\x00", "9", ";", "a;", "//", strings.Repeat("w", 33)})
		}
		return pick(r, []string{"a", "b", "account", "amount", "R"}) + pick(r, []string{"", "1", "2", "3", "4", "5"})
	}
	for range 30000 {
		s := api.Schema{Name: name()}
		for range some() {
			d := api.Record{Name: name(), Choice: r.IntN(2) == 0}
			for range some() {
				f := api.Field{Name: name()}
				for range some() {
					f.Type = append(f.Type, api.Sort{Kind: byte(r.IntN(9)), Name: pick(r, []string{"", "", name()})})
				}
				d.Fields = append(d.Fields, f)
				typed(t, f.Type, typeByWords(f.Type))
			}
			s.Records = append(s.Records, d)
		}
		for range some() {
			v := api.Service{Name: name()}
			for range some() {
				v.Methods = append(v.Methods, api.Method{Name: name(), Arg: name(), Result: byte(r.IntN(256)), Effect: pick(r, []string{"give", "take", name()}), Undo: pick(r, []string{"", name()})})
			}
			s.Services = append(s.Services, v)
		}
		for range some() {
			g := api.Saga{Name: name(), Arg: name()}
			for range some() {
				g.Steps = append(g.Steps, api.Step{Service: name(), Method: name(), At: int(r.Uint64())})
			}
			s.Sagas = append(s.Sagas, g)
		}
		tells(t, s)
	}
}

// P14.2

// The types of a right schema stand in its text.
func TestTypesStandInTheText(t *testing.T) {
	r := rand.New(rand.NewPCG(14, 4))
	for range 1000 {
		s := drawnRight(r)
		text := asked(s).text
		for _, d := range s.Records {
			for _, f := range d.Fields {
				typed(t, f.Type, typeByWords(f.Type))
				if part := " " + f.Name + " : " + Type(f.Type) + " ; "; !strings.Contains(text, part) {
					t.Fatalf("%s: there is no %s", text, part)
				}
			}
		}
	}
}

// P14.3

// declarations are the tokens of a schema's text up to the first declaration, then those of each one.
func declarations(text string) (ahead []string, l [][]string) {
	for _, w := range strings.Fields(text) {
		switch {
		case slices.Contains([]string{"record", "choice", "service", "saga"}, w):
			l = append(l, []string{w})
		case len(l) == 0:
			ahead = append(ahead, w)
		default:
			l[len(l)-1] = append(l[len(l)-1], w)
		}
	}
	return ahead, l
}

// mixed are the same declarations with each kind in its order, but the kinds among each other.
func mixed(r *rand.Rand, l [][]string) [][]string {
	byKind := map[string][][]string{}
	var kinds []string
	for _, d := range l {
		kind := strings.Replace(d[0], "choice", "record", 1)
		byKind[kind] = append(byKind[kind], d)
		kinds = append(kinds, kind)
	}
	shuffle(r, kinds)
	var m [][]string
	for _, kind := range kinds {
		m = append(m, byKind[kind][0])
		byKind[kind] = byKind[kind][1:]
	}
	return m
}

func inWord(c byte) bool {
	return c == '_' || c >= '0' && c <= '9' || c >= 'a' && c <= 'z' || c >= 'A' && c <= 'Z'
}

// laid is a text that has these tokens, with blanks and remarks of each kind between them.
func laid(r *rand.Rand, l []string) string {
	between := []string{" ", "\t", "\n", "\r", "\r\n", "   ", "//\n", "// 7 - / \" \xff\x00 { } ;\n", " // a\r b \n ", "///\n//\n", " \t\r\n"}
	var b strings.Builder
	last := byte(' ')
	for _, w := range l {
		if inWord(last) && inWord(w[0]) || r.IntN(3) > 0 {
			b.WriteString(pick(r, between))
		}
		b.WriteString(w)
		last = w[len(w)-1]
	}
	return b.String() + pick(r, []string{"", "\n", " ", "// the end", "//\n"})
}

// Texts that declare the same in the same order have one text, and one fingerprint, however they are laid out.
func TestLayouts(t *testing.T) {
	r := rand.New(rand.NewPCG(14, 5))
	for range 1500 {
		want := asked(drawnRight(r))
		ahead, l := declarations(want.text)
		for range 3 {
			text := laid(r, slices.Concat(append([][]string{ahead}, mixed(r, l)...)...))
			if got := tells(t, read(t, text)); got != want {
				t.Fatalf("%s: %s; not %s", short(text), short(got), short(want))
			}
		}
		if again := asked(read(t, want.text)); again != want {
			t.Fatalf("%s: read again, %s", short(want), short(again))
		}
	}
}

// What declares something else has another text, and another fingerprint: so do those of a few thousand texts.
func TestOthersHaveOtherTexts(t *testing.T) {
	r := rand.New(rand.NewPCG(14, 6))
	others, seen := 0, map[uint64]string{}
	for range 3000 {
		s := whole(drawnRight(r))
		a := asked(s)
		seen[a.print] = a.text
		for range 8 {
			o := whole(s)
			change(r, &o)
			if _, e := check.Check(o); e != api.OK {
				continue
			}
			b := asked(o)
			if same(s, o) != (a == b) || (a.text == b.text) != (a.print == b.print) {
				t.Fatalf("%s: %s; and %s: %s", short(s), short(a), short(o), short(b))
			}
			if text, there := seen[b.print]; there && text != b.text {
				t.Fatalf("%s, and %s: one fingerprint", text, b.text)
			}
			seen[b.print] = b.text
			if a != b {
				others++
			}
		}
	}
	if others < 5000 {
		t.Errorf("%d others: this tries too little", others)
	}
}

// Each single thing of the sample counts.
func TestEachThingCounts(t *testing.T) {
	want := asked(read(t, sample))
	seen := map[uint64]int{want.print: -1}
	for i, do := range []func(s *api.Schema){
		func(s *api.Schema) { s.Name = "Shop_" },
		func(s *api.Schema) { s.Records[0], s.Records[1] = s.Records[1], s.Records[0] },
		func(s *api.Schema) { s.Records = append(s.Records, api.Record{Name: "New"}) },
		func(s *api.Schema) { s.Records[4].Choice = true },
		func(s *api.Schema) { s.Records[1].Choice = false; s.Records[4].Fields = nil },
		func(s *api.Schema) { f := s.Records[4].Fields; f[0], f[1] = f[1], f[0] },
		func(s *api.Schema) { s.Records[4].Fields[0].Name = "A" },
		func(s *api.Schema) { s.Records[4].Fields[0].Type[0].Kind = api.TText },
		func(s *api.Schema) { s.Records[2].Fields[0].Type[0].Kind = api.TOpt },
		func(s *api.Schema) { s.Records[2].Fields[0].Type = s.Records[2].Fields[0].Type[1:] },
		func(s *api.Schema) { s.Records[4].Fields[2].Type[0].Name = "Order" },
		func(s *api.Schema) { s.Services[0], s.Services[1] = s.Services[1], s.Services[0] },
		func(s *api.Schema) { s.Services[1].Name = "idle" },
		func(s *api.Schema) { m := s.Services[0].Methods; m[0], m[1] = m[1], m[0] },
		func(s *api.Schema) { s.Services[0].Methods[4].Name = "Gift"; s.Sagas[2].Steps[2].Method = "Gift" },
		func(s *api.Schema) { s.Services[0].Methods[0].Result = api.TNone },
		func(s *api.Schema) { s.Services[0].Methods[4].Effect = "note" },
		func(s *api.Schema) { s.Services[2].Methods[0].Undo = ""; s.Sagas[2].Steps = s.Sagas[2].Steps[:1] },
		func(s *api.Schema) { s.Sagas[2].Steps = s.Sagas[2].Steps[:1] },
		func(s *api.Schema) { s.Sagas[0], s.Sagas[1] = s.Sagas[1], s.Sagas[0] },
		func(s *api.Schema) { s.Sagas[0].Name = "two" },
		func(s *api.Schema) { s.Sagas[0].Steps[0].At = 2 },
		func(s *api.Schema) { s.Sagas[0].Steps[0].Method = "gift" },
		func(s *api.Schema) { s.Sagas[0].Steps[0] = api.Step{Service: "Shop", Method: "put", At: 1} },
		func(s *api.Schema) { s.Sagas = s.Sagas[:2] },
		func(s *api.Schema) { s.Sagas = append(s.Sagas, s.Sagas[0]); s.Sagas[3].Name = "three" },
	} {
		s := whole(read(t, sample))
		do(&s)
		a := tells(t, s)
		if a.e != api.OK {
			t.Fatalf("%d: error %d", i, a.e)
		}
		if j, there := seen[a.print]; there {
			t.Errorf("%d and %d have one fingerprint", i, j)
		}
		seen[a.print] = i
	}
	if again := asked(read(t, sample)); again != want {
		t.Errorf("%s; not %s", short(again), short(want))
	}
}
