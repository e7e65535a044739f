package check

import (
	"math/rand/v2"
	"slices"
	"strconv"
	"strings"
	"testing"

	"redress/api"
)

func pick[T any](r *rand.Rand, l []T) T { return l[r.IntN(len(l))] }

// namer tells names of its own, one after the other.
type namer struct {
	r *rand.Rand
	n int
}

func (n *namer) name() string {
	n.n++
	return pick(n.r, []string{"a", "R", "list", "Z_", strings.Repeat("w", 28)}) + strconv.Itoa(n.n)
}

// aType ends in a plain sort, or in one of these names. Plainly named types are of the first few alone, which have a value.
func aType(r *rand.Rand, names []string, finite int) []api.Sort {
	t := kinds(slices.Repeat([]byte{api.TList}, max(0, r.IntN(16)-4))...)
	for i := range t {
		t[i].Kind = pick(r, []byte{api.TList, api.TOpt})
	}
	if len(t) == 0 {
		names = names[:finite]
	}
	if len(names) > 0 && r.IntN(2) == 0 {
		return append(t, api.Sort{Kind: api.TNamed, Name: pick(r, names)})
	}
	return append(t, api.Sort{Kind: pick(r, []byte{api.TNone, api.TBool, api.TInt, api.TText})})
}

// drawnRecords are right, and the first few of them are order records, if there are so many.
func drawnRecords(r *rand.Rand, n *namer, orders int) []api.Record {
	l := make([]api.Record, orders+r.IntN(5))
	var names []string
	for range l {
		names = append(names, n.name())
	}
	for i := range l {
		l[i].Name = names[i]
		l[i].Choice = i >= orders && r.IntN(2) == 0
		for range r.IntN(5) {
			l[i].Fields = append(l[i].Fields, api.Field{Name: n.name(), Type: aType(r, names, i)})
		}
		if l[i].Choice {
			for range r.IntN(3) {
				l[i].Fields = append(l[i].Fields, api.Field{Name: n.name(), Type: aType(r, names, len(names))})
			}
			l[i].Fields = append(l[i].Fields, api.Field{Name: n.name(), Type: aType(r, names, i)})
		}
		if i < orders {
			l[i].Fields = append(l[i].Fields, orderRecord("").Fields...)
		}
		r.Shuffle(len(l[i].Fields), func(a, b int) { l[i].Fields[a], l[i].Fields[b] = l[i].Fields[b], l[i].Fields[a] })
	}
	return l
}

func drawnService(r *rand.Rand, n *namer, orders []api.Record) api.Service {
	v := api.Service{Name: n.name()}
	for range r.IntN(4) {
		effect := pick(r, []string{"give", "take", "note"})
		m := api.Method{Name: n.name(), Arg: pick(r, orders).Name, Result: pick(r, []byte{api.TInt, api.TNone}), Effect: effect}
		if r.IntN(3) > 0 {
			contrary := map[string]string{"give": "take", "take": "give", "note": "note"}
			u := api.Method{Name: n.name(), Arg: m.Arg, Result: api.TNone, Effect: contrary[effect]}
			m.Undo = u.Name
			v.Methods = append(v.Methods, u)
		}
		v.Methods = append(v.Methods, m)
	}
	r.Shuffle(len(v.Methods), func(a, b int) { v.Methods[a], v.Methods[b] = v.Methods[b], v.Methods[a] })
	return v
}

// drawnSaga is one of an order record, if there are methods of that.
func drawnSaga(r *rand.Rand, n *namer, s api.Schema, arg string) (api.Saga, bool) {
	var all, undone []api.Step
	for _, v := range s.Services {
		for _, m := range v.Methods {
			p := api.Step{Service: v.Name, Method: m.Name}
			if m.Arg == arg {
				all = append(all, p)
			}
			if m.Arg == arg && m.Undo != "" {
				undone = append(undone, p)
			}
		}
	}
	if len(all) == 0 {
		return api.Saga{}, false
	}
	g := api.Saga{Name: n.name(), Arg: arg}
	for range r.IntN(8) {
		if len(undone) > 0 {
			g.Steps = append(g.Steps, pick(r, undone))
		}
	}
	g.Steps = append(g.Steps, pick(r, all))
	for i := range g.Steps {
		g.Steps[i].At = r.IntN(4)
	}
	return g, true
}

// drawnRight is a schema that is right.
func drawnRight(r *rand.Rand) api.Schema {
	n := &namer{r: r}
	s := api.Schema{Name: n.name()}
	orders := r.IntN(4)
	s.Records = drawnRecords(r, n, orders)
	if orders > 0 {
		for range r.IntN(4) {
			s.Services = append(s.Services, drawnService(r, n, s.Records[:orders]))
		}
		for range r.IntN(4) {
			if g, ok := drawnSaga(r, n, s, pick(r, s.Records[:orders]).Name); ok {
				s.Sagas = append(s.Sagas, g)
			}
		}
	}
	r.Shuffle(len(s.Records), func(a, b int) { s.Records[a], s.Records[b] = s.Records[b], s.Records[a] })
	return s
}

// whole is a copy of a schema, in lists of its own.
func whole(s api.Schema) api.Schema {
	s.Records = slices.Clone(s.Records)
	for i, r := range s.Records {
		r.Fields = slices.Clone(r.Fields)
		for j, f := range r.Fields {
			r.Fields[j].Type = slices.Clone(f.Type)
		}
		s.Records[i].Fields = r.Fields
	}
	s.Services = slices.Clone(s.Services)
	for i, v := range s.Services {
		s.Services[i].Methods = slices.Clone(v.Methods)
	}
	s.Sagas = slices.Clone(s.Sagas)
	for i, g := range s.Sagas {
		s.Sagas[i].Steps = slices.Clone(g.Steps)
	}
	return s
}

// texts are where a schema's texts stand.
func texts(s *api.Schema) []*string {
	l := []*string{&s.Name}
	for i := range s.Records {
		d := &s.Records[i]
		l = append(l, &d.Name)
		for j := range d.Fields {
			l = append(l, &d.Fields[j].Name)
			for k := range d.Fields[j].Type {
				l = append(l, &d.Fields[j].Type[k].Name)
			}
		}
	}
	for i := range s.Services {
		l = append(l, &s.Services[i].Name)
		for j := range s.Services[i].Methods {
			m := &s.Services[i].Methods[j]
			l = append(l, &m.Name, &m.Arg, &m.Effect, &m.Undo)
		}
	}
	for i := range s.Sagas {
		l = append(l, &s.Sagas[i].Name, &s.Sagas[i].Arg)
		for j := range s.Sagas[i].Steps {
			l = append(l, &s.Sagas[i].Steps[j].Service, &s.Sagas[i].Steps[j].Method)
		}
	}
	return l
}

// otherList is a list with one thing left out, doubled, put elsewhere, or many of them.
func otherList[T any](r *rand.Rand, l []T) []T {
	if len(l) == 0 {
		return make([]T, r.IntN(2))
	}
	i, j := r.IntN(len(l)), r.IntN(len(l))
	switch r.IntN(5) {
	case 0:
		return slices.Delete(slices.Clone(l), i, i+1)
	case 1:
		return slices.Insert(slices.Clone(l), j, l[i])
	case 2:
		l = slices.Clone(l)
		l[i], l[j] = l[j], l[i]
		return l
	case 3:
		return slices.Repeat(l, 1+r.IntN(9))
	}
	return l[:i]
}

// spoil changes one thing of a schema, most often so that it is right no more.
func spoil(r *rand.Rand, s *api.Schema) {
	switch r.IntN(8) {
	case 0, 1:
		l := texts(s)
		*pick(r, l) = *pick(r, l)
	case 2:
		*pick(r, texts(s)) = pick(r, []string{"", "int", "9", "b b", "give", "take", "note", "account", "amount", strings.Repeat("w", 33)})
	case 3:
		spoilLists(r, s)
	case 4, 5:
		if len(s.Records) > 0 {
			spoilRecord(r, &s.Records[r.IntN(len(s.Records))])
		}
	case 6:
		if len(s.Services) > 0 {
			spoilService(r, &s.Services[r.IntN(len(s.Services))])
		}
	case 7:
		if len(s.Records) > 0 && len(s.Services) > 0 && len(s.Sagas) > 0 {
			spoilSaga(r, s, &s.Sagas[r.IntN(len(s.Sagas))])
		}
	}
}

func spoilLists(r *rand.Rand, s *api.Schema) {
	switch r.IntN(3) {
	case 0:
		s.Records = otherList(r, s.Records)
	case 1:
		s.Services = otherList(r, s.Services)
	case 2:
		s.Sagas = otherList(r, s.Sagas)
	}
}

func spoilRecord(r *rand.Rand, d *api.Record) {
	if len(d.Fields) == 0 || r.IntN(4) == 0 {
		d.Choice = !d.Choice
		return
	}
	if r.IntN(4) == 0 {
		d.Fields = otherList(r, d.Fields)
		return
	}
	f := &d.Fields[r.IntN(len(d.Fields))]
	switch r.IntN(4) {
	case 0:
		f.Type = otherList(r, f.Type)
	case 1:
		f.Type = []api.Sort{{Kind: api.TNamed, Name: d.Name}}
	case 2:
		f.Type = kinds(byte(r.IntN(9)))
	case 3:
		if len(f.Type) > 0 {
			f.Type[r.IntN(len(f.Type))].Kind = byte(r.IntN(9))
		}
	}
}

func spoilService(r *rand.Rand, v *api.Service) {
	if len(v.Methods) == 0 || r.IntN(4) == 0 {
		v.Methods = otherList(r, v.Methods)
		return
	}
	m := &v.Methods[r.IntN(len(v.Methods))]
	switch r.IntN(3) {
	case 0:
		m.Result = byte(r.IntN(9))
	case 1:
		m.Effect = pick(r, []string{"give", "take", "note"})
	case 2:
		m.Undo = pick(r, v.Methods).Name
	}
}

func spoilSaga(r *rand.Rand, s *api.Schema, g *api.Saga) {
	if len(g.Steps) == 0 || r.IntN(4) == 0 {
		g.Steps = otherList(r, g.Steps)
		return
	}
	p := &g.Steps[r.IntN(len(g.Steps))]
	switch r.IntN(4) {
	case 0:
		g.Arg = pick(r, s.Records).Name
	case 1:
		p.At = r.IntN(8) - 2
	default:
		for _, m := range pick(r, s.Services).Methods {
			if m.Undo == "" {
				p.Method = m.Name
			}
		}
	}
}

// P13.1

func TestDrawnRight(t *testing.T) {
	r := rand.New(rand.NewPCG(13, 1))
	sagas := 0
	for range 3000 {
		s := drawnRight(r)
		told(t, s, "", api.OK)
		sagas += len(s.Sagas)
	}
	if sagas < 1000 {
		t.Errorf("%d sagas: this tries too little", sagas)
	}
}

func TestDrawnSpoiled(t *testing.T) {
	r := rand.New(rand.NewPCG(13, 2))
	seen := [11]int{}
	for range 60000 {
		s := whole(drawnRight(r))
		for range 1 + r.IntN(3) {
			spoil(r, &s)
			s = whole(s) // lists that were doubled are two
		}
		if len(s.Records) > 10 {
			s.Records = s.Records[:10]
		}
		seen[checks(t, s).rule]++
	}
	for rule, n := range seen {
		if n < 200 {
			t.Errorf("rule %d: told %d times", rule, n)
		}
	}
}

// Schemas of any numbers and texts, which break most rules at once.
func TestDrawnOfAnything(t *testing.T) {
	r := rand.New(rand.NewPCG(13, 3))
	names := []string{"a", "b", "account", "amount", "R"}
	some := func() int { return r.IntN(4) }
	name := func() string {
		if r.IntN(60) == 0 {
			return pick(r, wrongNames[:10])
		}
		return pick(r, names) + pick(r, []string{"", "1", "2", "3", "4", "5"})
	}
	for range 40000 {
		s := api.Schema{Name: name()}
		for range some() {
			d := api.Record{Name: name(), Choice: r.IntN(2) == 0}
			for range some() {
				f := api.Field{Name: name()}
				for range some() {
					f.Type = append(f.Type, api.Sort{Kind: byte(r.IntN(9)), Name: pick(r, []string{"", "", name()})})
				}
				d.Fields = append(d.Fields, f)
			}
			s.Records = append(s.Records, d)
		}
		for range some() {
			v := api.Service{Name: name()}
			for range some() {
				v.Methods = append(v.Methods, api.Method{Name: name(), Arg: name(), Result: byte(r.IntN(256)), Effect: pick(r, []string{"give", "take", name()}), Undo: pick(r, []string{"", name()})})
			}
			s.Services = append(s.Services, v)
		}
		for range some() {
			g := api.Saga{Name: name(), Arg: name()}
			for range some() {
				g.Steps = append(g.Steps, api.Step{Service: name(), Method: name(), At: int(r.Uint64())})
			}
			s.Sagas = append(s.Sagas, g)
		}
		checks(t, s)
		finds(t, s)
	}
}

// P13.3

func TestRightIsRightStill(t *testing.T) {
	r := rand.New(rand.NewPCG(13, 4))
	for range 3000 {
		s := drawnRight(r)
		turned := whole(s)
		slices.Reverse(turned.Records)
		told(t, turned, "", api.OK)
		r.Shuffle(len(turned.Records), func(a, b int) {
			turned.Records[a], turned.Records[b] = turned.Records[b], turned.Records[a]
		})
		told(t, turned, "", api.OK)
		for less := s; len(less.Sagas) > 0; {
			less.Sagas = less.Sagas[:len(less.Sagas)-1]
			told(t, less, "", api.OK)
		}
	}
}

// Whatever Check lets pass, drawn right or spoiled, has a way back from each step but the last one.
func TestRightHasUndos(t *testing.T) {
	r := rand.New(rand.NewPCG(13, 5))
	steps := 0
	for range 20000 {
		s := whole(drawnRight(r))
		spoil(r, &s)
		if _, e := Check(s); e != api.OK {
			continue
		}
		for _, g := range s.Sagas {
			for i, p := range g.Steps {
				m, ok := Method(s, p.Service, p.Method)
				if !ok || m.Undo == "" && i+1 < len(g.Steps) {
					t.Fatalf("%s: step %d of %s has no way back", short(s), i, g.Name)
				}
				if m.Undo == "" {
					continue
				}
				steps++
				if u, ok := Method(s, p.Service, m.Undo); !ok || u.Undo != "" || u.Arg != m.Arg {
					t.Fatalf("%s: what undoes step %d of %s is %v", short(s), i, g.Name, u)
				}
			}
		}
	}
	if steps < 5000 {
		t.Errorf("%d steps: this tries too little", steps)
	}
}

func TestRightNamesAreFound(t *testing.T) {
	r := rand.New(rand.NewPCG(13, 6))
	for range 2000 {
		s := drawnRight(r)
		for _, d := range s.Records {
			if got, ok := Find(s, d.Name); !ok || !sameRecord(got, d) {
				t.Fatalf("%s: %s is %v, %v", short(s), d.Name, got, ok)
			}
		}
		for _, v := range s.Services {
			for _, m := range v.Methods {
				if got, ok := Method(s, v.Name, m.Name); !ok || got != m {
					t.Fatalf("%s: %s is %v, %v", short(s), m.Name, got, ok)
				}
			}
		}
		for _, g := range s.Sagas {
			if got, ok := Saga(s, g.Name); !ok || !sameSaga(got, g) {
				t.Fatalf("%s: %s is %v, %v", short(s), g.Name, got, ok)
			}
		}
		finds(t, s)
	}
}
