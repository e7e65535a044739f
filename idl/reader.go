package idl

import (
	"slices"

	"redress/api"
	"redress/token"
)

// reader takes a text's tokens, up to the first one with which the text can't go on. There it is stuck: it takes nothing any more, so that whoever reads need not ask at each step.
type reader struct {
	left  []api.Token // not taken yet
	stuck bool
}

// ahead is the text of the token that is taken next, and empty if none is.
func (r *reader) ahead() string {
	if r.stuck || len(r.left) == 0 {
		return ""
	}
	return r.left[0].Text
}

// take takes the next token, if it is fit to stand here; else r is stuck, and the token told is none.
func (r *reader) take(fit func(t api.Token) bool) api.Token {
	if r.stuck || len(r.left) == 0 || !fit(r.left[0]) {
		r.stuck = true
		return api.Token{}
	}
	t := r.left[0]
	r.left = r.left[1:]
	return t
}

// one takes one of these keywords and signs. Their texts say which tokens they are, since no two kinds have a text in common.
func (r *reader) one(of ...string) string {
	return r.take(func(t api.Token) bool { return slices.Contains(of, t.Text) }).Text
}

// got takes a keyword or a sign, if it is the next token, and says whether it was.
func (r *reader) got(text string) bool {
	if r.ahead() != text {
		return false
	}
	r.one(text)
	return true
}

func (r *reader) name() string {
	return r.take(func(t api.Token) bool { return token.Name(t.Text) }).Text
}

func (r *reader) number() int {
	return r.take(func(t api.Token) bool { return t.Kind == api.KNumber }).Num
}

// braced is what stands between { and }, one after the other by read.
func braced[T any](r *reader, read func(r *reader) T) []T {
	var l []T
	r.one("{")
	for !r.stuck && !r.got("}") {
		l = append(l, read(r))
	}
	return l
}
