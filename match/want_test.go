package match_test

import (
	"math/rand"
	"slices"
	"strings"
	"testing"

	"avowal/api"
	"avowal/match"
	"avowal/parse"
)

func num(n int) api.Const { return api.Const{Num: true, N: n} }

func text(s string) api.Const { return api.Const{S: s} }

func variable(s string) api.Term { return api.Term{Var: s} }

func value(c api.Const) api.Term { return api.Term{Val: c} }

func name(s string) api.Term { return value(text(s)) }

func number(n int) api.Term { return value(num(n)) }

func terms(l ...api.Term) []api.Term { return l }

// constant is what a number, a text or a constant is meant as.
func constant(x any) api.Const {
	switch x := x.(type) {
	case int:
		return num(x)
	case string:
		return text(x)
	}
	return x.(api.Const)
}

// said is a fact; its arguments are numbers, texts or constants.
func said(at, by, pred string, args ...any) api.Fact {
	f := api.Fact{At: at, By: by, Pred: pred}
	for _, x := range args {
		f.Args = append(f.Args, constant(x))
	}
	return f
}

// binds are bindings: a variable, its value, the next variable and so on.
func binds(l ...any) (env []api.Bind) {
	for i := 0; i < len(l); i += 2 {
		env = append(env, api.Bind{Var: l[i].(string), Val: constant(l[i+1])})
	}
	return env
}

// rule is what the text of one is parsed as.
func rule(t *testing.T, s string) api.Rule {
	t.Helper()
	l, at, e := parse.Program(s)
	if e != api.OK || len(l) != 1 {
		t.Fatalf("%q: %d at %d, %d rules", s, e, at, len(l))
	}
	return l[0]
}

// literal is the literal of a text, and the home that stands ahead of it with a colon.
func literal(t *testing.T, s string) (home api.Term, l api.Literal) {
	t.Helper()
	r := rule(t, strings.Replace(s, ":", ": head() :-", 1)+".")
	return r.Home, r.Body[0]
}

func sameFact(a, b api.Fact) bool {
	return a.At == b.At && a.By == b.By && a.Pred == b.Pred && slices.Equal(a.Args, b.Args)
}

func sameFacts(a, b []api.Fact) bool { return slices.EqualFunc(a, b, sameFact) }

func sameLiteral(a, b api.Literal) bool {
	return a.By == b.By && a.Pred == b.Pred && slices.Equal(a.Args, b.Args) && a.At == b.At
}

func sameRule(a, b api.Rule) bool {
	return a.Home == b.Home && a.Pred == b.Pred && slices.Equal(a.Args, b.Args) && a.To == b.To && slices.EqualFunc(a.Body, b.Body, sameLiteral)
}

func copiedFact(f api.Fact) api.Fact {
	f.Args = slices.Clone(f.Args)
	return f
}

func copiedFacts(l []api.Fact) (m []api.Fact) {
	for _, f := range l {
		m = append(m, copiedFact(f))
	}
	return m
}

func copiedRule(r api.Rule) api.Rule {
	r.Args = slices.Clone(r.Args)
	r.Body = slices.Clone(r.Body)
	for i := range r.Body {
		r.Body[i].Args = slices.Clone(r.Body[i].Args)
	}
	return r
}

// What stands from here to wantFollows is P11.1 to P11.4 by their words, without any call of the package.

func wantValue(t api.Term, env []api.Bind) (api.Const, bool) {
	if t.Var != "" {
		for _, b := range env {
			if b.Var == t.Var {
				return b.Val, true
			}
		}
		return api.Const{}, false
	}
	if t.Val.Num || t.Val.N != 0 || t.Val.S != "" {
		return t.Val, true
	}
	return api.Const{}, false
}

func wantUnify(t api.Term, c api.Const, env []api.Bind) ([]api.Bind, bool) {
	v, ok := wantValue(t, env)
	if ok && v.Num == c.Num && v.N == c.N && v.S == c.S {
		return slices.Clone(env), true
	}
	if !ok && t.Var != "" {
		return slices.Concat(env, []api.Bind{{Var: t.Var, Val: c}}), true
	}
	return nil, false
}

func none(t api.Term) bool {
	return t.Var == "" && !t.Val.Num && t.Val.N == 0 && t.Val.S == ""
}

func wantLiteral(home api.Term, l api.Literal, f api.Fact, env []api.Bind) ([]api.Bind, bool) {
	if l.Pred != f.Pred || len(l.Args) != len(f.Args) {
		return nil, false
	}
	at := l.At
	if none(at) {
		at = home
	}
	env, ok := wantUnify(at, text(f.At), env)
	if !ok {
		return nil, false
	}
	if none(l.By) {
		if f.By != f.At {
			return nil, false
		}
	} else if env, ok = wantUnify(l.By, text(f.By), env); !ok {
		return nil, false
	}
	for i, t := range l.Args {
		if env, ok = wantUnify(t, f.Args[i], env); !ok {
			return nil, false
		}
	}
	return env, true
}

// wantText is the text that a term's Value is.
func wantText(t api.Term, env []api.Bind) (string, bool) {
	c, ok := wantValue(t, env)
	if !ok || c.Num || c.N != 0 {
		return "", false
	}
	return c.S, true
}

func wantFact(at, by api.Term, pred string, args []api.Term, env []api.Bind) (api.Fact, bool) {
	f := api.Fact{Pred: pred}
	var ok bool
	if f.At, ok = wantText(at, env); !ok {
		return api.Fact{}, false
	}
	if f.By, ok = wantText(by, env); !ok {
		return api.Fact{}, false
	}
	for _, t := range args {
		c, ok := wantValue(t, env)
		if !ok {
			return api.Fact{}, false
		}
		f.Args = append(f.Args, c)
	}
	return f, true
}

func wantHead(r api.Rule, env []api.Bind) (api.Fact, bool) {
	if none(r.To) {
		return wantFact(r.Home, r.Home, r.Pred, r.Args, env)
	}
	return wantFact(r.To, r.Home, r.Pred, r.Args, env)
}

func wantBody(r api.Rule, env []api.Bind) (l []api.Fact, ok bool) {
	for _, x := range r.Body {
		at, by := x.At, x.By
		if none(at) {
			at = r.Home
		}
		if none(by) {
			by = at
		}
		f, ok := wantFact(at, by, x.Pred, x.Args, env)
		if !ok {
			return nil, false
		}
		l = append(l, f)
	}
	return l, true
}

func wantFollows(r api.Rule, d api.Deriv) bool {
	env, ok := wantUnify(r.Home, text(d.Head.By), nil)
	if !ok || len(r.Body) != len(d.Body) {
		return false
	}
	for i, x := range r.Body {
		if env, ok = wantLiteral(r.Home, x, d.Body[i], env); !ok {
			return false
		}
	}
	head, ok := wantHead(r, env)
	return ok && sameFact(head, d.Head)
}

// holdValue, and those behind it, hold what the package tells against the words above, and against what is zero where there is nothing.

func holdValue(t *testing.T, x api.Term, env []api.Bind) {
	t.Helper()
	got, ok := match.Value(x, env)
	if want, has := wantValue(x, env); got != want || ok != has {
		t.Fatalf("Value of %+v, %+v: %+v, %t; want %+v, %t", x, env, got, ok, want, has)
	}
}

func holdUnify(t *testing.T, x api.Term, c api.Const, env []api.Bind) ([]api.Bind, bool) {
	t.Helper()
	got, ok := match.Unify(x, c, env)
	if want, has := wantUnify(x, c, env); !slices.Equal(got, want) || ok != has {
		t.Fatalf("Unify of %+v, %+v, %+v: %+v, %t; want %+v, %t", x, c, env, got, ok, want, has)
	}
	return got, ok
}

func holdLiteral(t *testing.T, home api.Term, l api.Literal, f api.Fact, env []api.Bind) ([]api.Bind, bool) {
	t.Helper()
	got, ok := match.Literal(home, l, f, env)
	if want, has := wantLiteral(home, l, f, env); !slices.Equal(got, want) || ok != has {
		t.Fatalf("Literal of %+v, %+v, %+v, %+v: %+v, %t; want %+v, %t", home, l, f, env, got, ok, want, has)
	}
	return got, ok
}

func holdHead(t *testing.T, r api.Rule, env []api.Bind) (api.Fact, bool) {
	t.Helper()
	got, ok := match.Head(r, env)
	if want, has := wantHead(r, env); !sameFact(got, want) || ok != has {
		t.Fatalf("Head of %+v, %+v: %+v, %t; want %+v, %t", r, env, got, ok, want, has)
	}
	return got, ok
}

func holdBody(t *testing.T, r api.Rule, env []api.Bind) ([]api.Fact, bool) {
	t.Helper()
	got, ok := match.Body(r, env)
	if want, has := wantBody(r, env); !sameFacts(got, want) || ok != has {
		t.Fatalf("Body of %+v, %+v: %+v, %t; want %+v, %t", r, env, got, ok, want, has)
	}
	return got, ok
}

func holdFollows(t *testing.T, r api.Rule, d api.Deriv) bool {
	t.Helper()
	got := match.Follows(r, d)
	if want := wantFollows(r, d); got != want {
		t.Fatalf("Follows of %+v, %+v: %t", r, d, got)
	}
	return got
}

// maker makes terms, facts and rules, of few names, so that many are alike; in odd of a hundred terms of a kind that no program has.
type maker struct {
	*rand.Rand
	odd int
}

func pick[T any](m maker, l []T) T { return l[m.Intn(len(l))] }

// oddTerms are terms that no program has.
func oddTerms() []api.Term {
	return []api.Term{
		{}, {Var: "X", Val: num(1)}, {Var: "A", Val: text("a")}, {Var: "x"}, {Var: " "},
		value(api.Const{Num: true, N: 1, S: "a"}), value(api.Const{N: 1, S: "a"}), value(api.Const{N: 1}), value(api.Const{Num: true, S: "a"}), value(api.Const{Num: true}),
	}
}

// oddConsts are constants that may not be.
func oddConsts() []api.Const {
	return []api.Const{{}, {N: 1, S: "a"}, {Num: true, N: 1, S: "a"}, {Num: true, S: "a"}, {N: 1}, {N: -1}, {Num: true, S: "\x00"}}
}

func (m maker) constant() api.Const {
	if m.Intn(100) < m.odd {
		return pick(m, oddConsts())
	}
	return pick(m, []api.Const{text("a"), text("b"), text("a"), num(1), num(0), text("1")})
}

// term is one that stands among arguments.
func (m maker) term() api.Term {
	switch {
	case m.Intn(100) < m.odd:
		return pick(m, oddTerms())
	case m.Intn(3) > 0:
		return variable(pick(m, []string{"A", "X", "Y", "Z"}))
	}
	return value(m.constant())
}

// place is a principal's term.
func (m maker) place() api.Term {
	switch {
	case m.Intn(100) < m.odd:
		return pick(m, oddTerms())
	case m.Intn(2) > 0:
		return variable(pick(m, []string{"A", "A", "X", "B"}))
	}
	return name(pick(m, []string{"a", "b"}))
}

// perhaps is a principal's term, or none.
func (m maker) perhaps() api.Term {
	if m.Intn(2) > 0 {
		return api.Term{}
	}
	return m.place()
}

func (m maker) args() (l []api.Term) {
	for range m.Intn(4) {
		l = append(l, m.term())
	}
	return l
}

func (m maker) literal() api.Literal {
	return api.Literal{By: m.perhaps(), Pred: pick(m, []string{"p", "q"}), Args: m.args(), At: m.perhaps()}
}

func (m maker) rule() api.Rule {
	r := api.Rule{Home: m.place(), Pred: pick(m, []string{"p", "q"}), Args: m.args(), To: m.perhaps()}
	for range m.Intn(api.MaxBody + 1) {
		r.Body = append(r.Body, m.literal())
	}
	return r
}

func (m maker) env() (env []api.Bind) {
	for range m.Intn(4) {
		env = append(env, api.Bind{Var: pick(m, []string{"A", "X", "Y", "Z", "B", "x", " ", ""}), Val: m.constant()})
	}
	return env
}

// whole are bindings of all variables that there are; those of principals' terms are mostly texts.
func (m maker) whole() (env []api.Bind) {
	for _, v := range []string{"A", "X", "B"} {
		env = append(env, api.Bind{Var: v, Val: text(pick(m, []string{"a", "b", ""}))})
		if m.Intn(100) < m.odd {
			env[len(env)-1].Val = m.constant()
		}
	}
	for _, v := range []string{"Y", "Z", "x", " "} {
		env = append(env, api.Bind{Var: v, Val: m.constant()})
	}
	m.Shuffle(len(env), func(i, j int) { env[i], env[j] = env[j], env[i] })
	return append(env, m.env()...)
}

// near is a fact that a literal may well match: what its terms are by some bindings, with few changes.
func (m maker) near(home api.Term, l api.Literal, env []api.Bind) api.Fact {
	body, ok := wantBody(api.Rule{Home: home, Body: []api.Literal{l}}, slices.Concat(env, m.whole()))
	if !ok {
		return m.fact()
	}
	f := body[0]
	switch m.Intn(12) {
	case 0:
		f.At = pick(m, []string{"a", "b", ""})
	case 1:
		f.By = pick(m, []string{"a", "b", ""})
	case 2:
		f.Args = append(f.Args, m.constant())
	case 3:
		f.Args = f.Args[:m.Intn(len(f.Args)+1)]
	case 4:
		f.Pred = pick(m, []string{"p", "q", ""})
	case 5:
		if len(f.Args) > 0 {
			f.Args[m.Intn(len(f.Args))] = m.constant()
		}
	}
	return f
}

func (m maker) fact() api.Fact {
	f := api.Fact{At: pick(m, []string{"a", "b"}), By: pick(m, []string{"a", "b"}), Pred: pick(m, []string{"p", "q"})}
	for range m.Intn(4) {
		f.Args = append(f.Args, m.constant())
	}
	return f
}

// variablesOf are those of terms.
func variablesOf(l ...api.Term) (vars []string) {
	for _, t := range l {
		if t.Var != "" {
			vars = append(vars, t.Var)
		}
	}
	return vars
}

// inRange tells whether each variable of the head is one of the Home or the body.
func inRange(r api.Rule) bool {
	has := variablesOf(r.Home)
	for _, x := range r.Body {
		has = append(has, variablesOf(append(slices.Clone(x.Args), x.By, x.At)...)...)
	}
	for _, v := range variablesOf(append(slices.Clone(r.Args), r.To)...) {
		if !slices.Contains(has, v) {
			return false
		}
	}
	return true
}
