package match

import "avowal/api"

// unify is Unify that binds behind env itself, so that bindings are not copied term by term: who calls it must own env's spare room, or hand it in without any.
func unify(t api.Term, c api.Const, env []api.Bind) ([]api.Bind, bool) {
	v, bound := Value(t, env)
	switch {
	case bound && v == c:
		return env, true
	case bound || isNone(t):
		return nil, false
	}
	return append(env, api.Bind{Var: t.Var, Val: c}), true
}

// literal is Literal that binds behind env itself.
func literal(home api.Term, l api.Literal, f api.Fact, env []api.Bind) ([]api.Bind, bool) {
	if l.Pred != f.Pred || len(l.Args) != len(f.Args) {
		return nil, false
	}
	at := either(l.At, home)
	env, ok := unify(at, text(f.At), env)
	if ok { // without a By the place is asked again: its value is f's At by now, so that f's By must be the same
		env, ok = unify(either(l.By, at), text(f.By), env)
	}
	for i := 0; ok && i < len(l.Args); i++ {
		env, ok = unify(l.Args[i], f.Args[i], env)
	}
	return env, ok
}

// said is the fact of terms that all have a value.
func said(at, by api.Term, pred string, args []api.Term, env []api.Bind) (api.Fact, bool) {
	place, hasPlace := name(at, env)
	sayer, hasSayer := name(by, env)
	if !hasPlace || !hasSayer {
		return api.Fact{}, false
	}
	f := api.Fact{At: place, By: sayer, Pred: pred}
	for _, t := range args {
		c, ok := Value(t, env)
		if !ok {
			return api.Fact{}, false
		}
		f.Args = append(f.Args, c)
	}
	return f, true
}

// name is the text that a term's value is. An empty one counts too: it is what a fact without a place binds, and its head must follow like any other.
func name(t api.Term, env []api.Bind) (string, bool) {
	c, ok := Value(t, env)
	if !ok || c != text(c.S) {
		return "", false
	}
	return c.S, true
}

// text is the constant of a text.
func text(s string) api.Const { return api.Const{S: s} }

// isNone tells whether a term is none.
func isNone(t api.Term) bool { return t == api.Term{} }

// either is a term, or another one in place of none.
func either(t, other api.Term) api.Term {
	if isNone(t) {
		return other
	}
	return t
}

// own are the bindings in memory of their own.
func own(env []api.Bind) []api.Bind { return append([]api.Bind(nil), env...) }
