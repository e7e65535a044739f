package value

import "redress/api"

// depthsOf are the depths of records' and choices' least values, by their names.
type depthsOf map[string]int

// beyond is more than any least value's depth in a right schema.
const beyond = 1 << 16

// depths are those of a right schema. They are found one depth behind the other, so what is not known yet is deeper than what is looked for.
func depths(s api.Schema) depthsOf {
	known := depthsOf{}
	for depth := 1; len(known) < len(s.Records); depth++ {
		for _, r := range s.Records {
			if _, ok := known[r.Name]; !ok && known.whole(r) == depth {
				known[r.Name] = depth
			}
		}
	}
	return known
}

// of is the depth of a type's least value, as far as it is known.
func (known depthsOf) of(t []api.Sort) int {
	if t[0].Kind != api.TNamed {
		return 1
	}
	if depth, ok := known[t[0].Name]; ok {
		return depth
	}
	return beyond
}

// whole is the depth of a record's or choice's least value, as far as its parts' are known.
func (known depthsOf) whole(r api.Record) int {
	if r.Choice {
		return 1 + known.of(r.Fields[known.arm(r)].Type)
	}
	deepest := 0
	for _, f := range r.Fields {
		deepest = max(deepest, known.of(f.Type))
	}
	return 1 + deepest
}

// arm is the first arm of a choice that has a value of the least depth.
func (known depthsOf) arm(r api.Record) int {
	first := 0
	for i, f := range r.Fields {
		if known.of(f.Type) < known.of(r.Fields[first].Type) {
			first = i
		}
	}
	return first
}

// least is a least value that is put together part by part.
type least struct {
	find   finder
	depths depthsOf
	v      api.Value
}

// put puts a type's least value behind what there is. It goes no further than needed to be too long: a value may have more parts than could ever be put.
func (l *least) put(t []api.Sort) {
	if len(l.v) > api.MaxNodes {
		return
	}
	switch t[0].Kind {
	case api.TNone:
		l.part(api.Node{Kind: api.VNone})
	case api.TBool:
		l.part(api.Node{Kind: api.VBool})
	case api.TInt:
		l.part(api.Node{Kind: api.VInt})
	case api.TText:
		l.part(api.Node{Kind: api.VText})
	case api.TList:
		l.part(api.Node{Kind: api.VList})
	case api.TOpt:
		l.part(api.Node{Kind: api.VOpt})
	case api.TNamed:
		r, _ := l.find(t[0].Name)
		l.whole(r)
	}
}

func (l *least) part(n api.Node) { l.v = append(l.v, n) }

// whole puts a record's or choice's least value.
func (l *least) whole(r api.Record) {
	if r.Choice {
		arm := l.depths.arm(r)
		l.part(api.Node{Kind: api.VChoice, Int: int64(arm), Kids: 1})
		l.put(r.Fields[arm].Type)
		return
	}
	l.part(api.Node{Kind: api.VRecord, Kids: len(r.Fields)})
	for _, f := range r.Fields {
		l.put(f.Type)
	}
}
