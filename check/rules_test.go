package check

import (
	"slices"
	"strconv"
	"testing"

	"redress/api"
)

// spoiler breaks one rule of the sample, at one place.
type spoiler struct {
	rule  int
	where string
	e     api.Errno
	do    func(s *api.Schema)
}

// spoilers break each rule at an early place and at a late one, so that of two rules either may have the first place. In their own rule they stand in the order of places.
var spoilers = []spoiler{
	{1, "", api.ErrWord, func(s *api.Schema) { s.Name = "a b" }},
	{1, "take", api.ErrWord, func(s *api.Schema) { s.Records[2].Fields[0].Name = "take" }},
	{1, "", api.ErrWord, func(s *api.Schema) { s.Sagas[2].Name = "" }},
	{2, "", api.ErrMany, func(s *api.Schema) {
		for i := range 60 {
			s.Sagas = append(s.Sagas, api.Saga{Name: "s" + strconv.Itoa(i), Arg: "Order", Steps: s.Sagas[2].Steps})
		}
	}},
	{2, "More", api.ErrMany, func(s *api.Schema) { s.Records[2].Fields = append(s.Records[2].Fields, fieldsOf(13)...) }},
	{2, "Idle", api.ErrMany, func(s *api.Schema) {
		for i := range 17 {
			s.Services[2].Methods = append(s.Services[2].Methods, api.Method{Name: "m" + strconv.Itoa(i), Arg: "Order", Result: api.TNone, Effect: "give"})
		}
	}},
	{2, "watch", api.ErrMany, func(s *api.Schema) {
		s.Sagas[1].Steps = slices.Concat(s.Sagas[1].Steps[:2], s.Sagas[1].Steps, s.Sagas[1].Steps, s.Sagas[1].Steps)
	}},
	{3, "Pair.b", api.ErrTwice, func(s *api.Schema) {
		s.Records[3].Fields = append(s.Records[3].Fields, s.Records[3].Fields[1])
	}},
	{3, "Shop", api.ErrTwice, func(s *api.Schema) { s.Services = append(s.Services, api.Service{Name: "Shop"}) }},
	{3, "buy", api.ErrTwice, func(s *api.Schema) {
		s.Sagas = append(s.Sagas, api.Saga{Name: "buy", Arg: "Order", Steps: s.Sagas[2].Steps})
	}},
	{4, "Way.far", api.ErrType, func(s *api.Schema) { s.Records[1].Fields[1].Type[1].Name = "Hay" }},
	{4, "Pair.a", api.ErrType, func(s *api.Schema) { s.Records[3].Fields[0].Type = nil }},
	{4, "Bank.gift", api.ErrType, func(s *api.Schema) { s.Services[0].Methods[4].Result = api.TBool }},
	{5, "Pair", api.ErrBottom, func(s *api.Schema) { s.Records[3].Fields[2].Type[0].Name = "Pair" }},
	{5, "Void", api.ErrBottom, func(s *api.Schema) { s.Records = append(s.Records, api.Record{Name: "Void", Choice: true}) }},
	{6, "Bank.pay", api.ErrEffect, func(s *api.Schema) { s.Services[0].Methods[0].Effect = "steal" }},
	{6, "Shop.unput", api.ErrEffect, func(s *api.Schema) { s.Services[1].Methods[1].Arg = "Pair" }},
	{7, "Bank.look", api.ErrUndo, func(s *api.Schema) { s.Services[0].Methods[2].Undo = "look" }},
	{7, "Shop.put", api.ErrUndo, func(s *api.Schema) { s.Services[1].Methods[0].Undo = "back" }},
	{8, "buy", api.ErrSaga, func(s *api.Schema) { s.Sagas[0].Arg = "Empty" }},
	{8, "watch", api.ErrSaga, func(s *api.Schema) { s.Sagas[1].Arg = "Way" }},
	{9, "buy.1", api.ErrStep, func(s *api.Schema) { s.Sagas[0].Steps[1].At = -1 }},
	{9, "one.0", api.ErrStep, func(s *api.Schema) { s.Sagas[2].Steps[0].Method = "put" }},
	{10, "buy.0", api.ErrUndo, func(s *api.Schema) { s.Sagas[0].Steps[0].Method = "gift" }},
	{10, "watch.1", api.ErrUndo, func(s *api.Schema) { s.Sagas[1].Steps[1].Method = "unlook" }},
}

// Each rule is broken alone, as far as its place and those that lean on it go.
func TestEachRule(t *testing.T) {
	seen := [11]int{}
	for _, x := range spoilers {
		s := read(t, sample)
		x.do(&s)
		if b := checks(t, s); b.rule != x.rule {
			t.Errorf("%s breaks rule %d, not %d", short(s), b.rule, x.rule)
		}
		told(t, s, x.where, x.e)
		seen[x.rule]++
	}
	for rule, n := range seen[1:] {
		if n < 2 {
			t.Errorf("rule %d: %d places", rule+1, n)
		}
	}
}

// Of two rules that are broken the first one is told, wherever it is; of two places of one rule the first.
func TestTwoRules(t *testing.T) {
	for i, a := range spoilers {
		for _, b := range spoilers[i+1:] {
			s := read(t, sample)
			a.do(&s)
			b.do(&s)
			told(t, s, a.where, a.e)
			s = read(t, sample)
			b.do(&s)
			a.do(&s)
			told(t, s, a.where, a.e)
		}
	}
}

// Of all of them the first one is told, and without that one the next one.
func TestAllRulesAtOnce(t *testing.T) {
	for left := range spoilers {
		s := read(t, sample)
		for _, x := range spoilers[left:] {
			x.do(&s)
		}
		told(t, s, spoilers[left].where, spoilers[left].e)
	}
}
