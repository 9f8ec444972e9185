package local_test

import (
	"math/rand"
	"slices"
	"strconv"
	"strings"
	"testing"

	"avowal/api"
	"avowal/check"
	"avowal/fact"
	"avowal/local"
	"avowal/model"
	"avowal/parse"
	"avowal/show"
)

func num(n int) api.Const { return api.Const{Num: true, N: n} }

func text(s string) api.Const { return api.Const{S: s} }

func variable(s string) api.Term { return api.Term{Var: s} }

func name(s string) api.Term { return api.Term{Val: text(s)} }

func number(n int) api.Term { return api.Term{Val: num(n)} }

func terms(l ...api.Term) []api.Term { return l }

// program is the rules of a text.
func program(t *testing.T, s string) []api.Rule {
	t.Helper()
	l, at, e := parse.Program(s)
	if e != api.OK {
		t.Fatalf("%q: %d at %d", s, e, at)
	}
	return l
}

// facts are those of a text, with semicolons between: the place (and, behind a bar, who says it there), the predicate, the arguments: a number, else a text.
func facts(s string) (l []api.Fact) {
	for _, one := range strings.Split(s, ";") {
		words := strings.Fields(one)
		if len(words) == 0 {
			continue
		}
		at, by, is := strings.Cut(words[0], "|")
		if !is {
			by = at
		}
		f := api.Fact{At: at, By: by, Pred: words[1]}
		for _, x := range words[2:] {
			if n, err := strconv.Atoi(x); err == nil {
				f.Args = append(f.Args, num(n))
			} else {
				f.Args = append(f.Args, text(x))
			}
		}
		l = append(l, f)
	}
	return l
}

// shownTerm is a term as layer 9 shows it; one that it refuses is marked.
func shownTerm(t api.Term) string {
	s, e := show.Term(t)
	if e != api.OK {
		return "<" + t.Var + "?" + t.Val.S + ">"
	}
	return s
}

func shownAtom(pred string, args []api.Term) string {
	var l []string
	for _, t := range args {
		l = append(l, shownTerm(t))
	}
	return pred + "(" + strings.Join(l, ", ") + ")"
}

func shownPlace(ahead string, t api.Term, behind string) string {
	if t == (api.Term{}) {
		return ""
	}
	return ahead + shownTerm(t) + behind
}

// shownRule is a rule as the chapter's example shows one, with a relay and without literals too.
func shownRule(r api.Rule) string {
	var l []string
	for _, x := range r.Body {
		l = append(l, shownPlace("", x.By, " says ")+shownAtom(x.Pred, x.Args)+shownPlace(" at ", x.At, ""))
	}
	s := shownTerm(r.Home) + ": " + shownAtom(r.Pred, r.Args) + shownPlace(" to ", r.To, "")
	if len(l) > 0 {
		s += " :- " + strings.Join(l, ", ")
	}
	return s + "."
}

// shown are rules, a line each; nobody wants to read very many.
func shown(l []api.Rule) (s string) {
	for _, r := range l[:min(len(l), 150)] {
		s += shownRule(r) + "\n"
	}
	return s[:min(len(s), 4000)]
}

func sameFact(a, b api.Fact) bool {
	return a.At == b.At && a.By == b.By && a.Pred == b.Pred && slices.Equal(a.Args, b.Args)
}

func sameFacts(a, b []api.Fact) bool { return slices.EqualFunc(a, b, sameFact) }

func sameLiteral(a, b api.Literal) bool {
	return a.By == b.By && a.Pred == b.Pred && slices.Equal(a.Args, b.Args) && a.At == b.At
}

func sameRule(a, b api.Rule) bool {
	return a.Home == b.Home && a.Pred == b.Pred && slices.Equal(a.Args, b.Args) && a.To == b.To && slices.EqualFunc(a.Body, b.Body, sameLiteral)
}

func sameRules(a, b []api.Rule) bool { return slices.EqualFunc(a, b, sameRule) }

// What stands from here to wantSeen is P13.1 to P13.3 by their words, of rules that may be run. Nothing is carried from literal to literal: of each its number alone tells what was reached ahead of it.

func wantRemote(r api.Rule, k int) bool {
	return r.Body[k].At != (api.Term{}) && r.Body[k].At != r.Home
}

// wantVariables are the Home's variable and those of the literals 0 to k - 1, each once, as they come first.
func wantVariables(r api.Rule, k int) (l []api.Term) {
	all := terms(r.Home)
	for _, x := range r.Body[:k] {
		all = append(append(append(all, x.By), x.Args...), x.At)
	}
	for i, t := range all {
		if t.Var != "" && slices.Index(all, t) == i {
			l = append(l, t)
		}
	}
	return l
}

func withoutAt(x api.Literal) api.Literal {
	x.At = api.Term{}
	return x
}

func wantPred(verb string, i, k int) string {
	return "~" + verb + strconv.Itoa(i) + "." + strconv.Itoa(k)
}

// wantReached is what was reached ahead of literal k of rule i: what the last remote one ahead of it told, and those between.
func wantReached(r api.Rule, i, k int) (l []api.Literal) {
	from := 0
	for j := range k {
		if wantRemote(r, j) {
			l = []api.Literal{{By: r.Body[j].At, Pred: wantPred("tell", i, j), Args: wantVariables(r, j+1)}}
			from = j + 1
		}
	}
	for _, x := range r.Body[from:k] {
		l = append(l, withoutAt(x))
	}
	return l
}

func wantRewrite(l []api.Rule) (all []api.Rule) {
	for i, r := range l {
		for k, x := range r.Body {
			if !wantRemote(r, k) {
				continue
			}
			asked := wantVariables(r, k)
			all = append(all, api.Rule{Home: r.Home, Pred: wantPred("ask", i, k), Args: asked, To: x.At, Body: wantReached(r, i, k)})
			all = append(all, api.Rule{Home: x.At, Pred: wantPred("tell", i, k), Args: wantVariables(r, k+1), To: r.Home, Body: []api.Literal{{By: r.Home, Pred: wantPred("ask", i, k), Args: asked}, withoutAt(x)}})
		}
		r.Body = wantReached(r, i, len(r.Body))
		all = append(all, r)
	}
	return all
}

func wantSeen(l []api.Fact) []api.Fact {
	return slices.DeleteFunc(slices.Clone(l), func(f api.Fact) bool { return len(f.Pred) > 0 && f.Pred[0] == 126 })
}

// rewritten holds what Rewrite tells of a program against the words above and against P13.4.
func rewritten(t *testing.T, l ...api.Rule) []api.Rule {
	t.Helper()
	got, e := local.Rewrite(l...)
	if want, _, _ := check.Program(l...); want != api.OK {
		if e != want || len(got) != 0 {
			t.Fatalf("%d and\n%swant %d and nothing: of\n%s", e, shown(got), want, shown(l))
		}
		return nil
	}
	if want := wantRewrite(l); e != api.OK || !sameRules(got, want) {
		t.Fatalf("%d and\n%swant\n%sof\n%s", e, shown(got), shown(want), shown(l))
	}
	onePlaceEach(t, l, got)
	return got
}

// onePlaceEach holds P13.4.
func onePlaceEach(t *testing.T, l, got []api.Rule) {
	t.Helper()
	many := 0
	for _, r := range l {
		for k := range r.Body {
			if wantRemote(r, k) {
				many++
			}
		}
	}
	if len(got) != len(l)+2*many {
		t.Fatalf("%d rules, of which %d literals are remote:\n%sbecame\n%s", len(l), many, shown(l), shown(got))
	}
	for i, r := range got {
		for _, x := range r.Body {
			if x.At != (api.Term{}) {
				t.Fatalf("a literal has an At:\n%sof\n%s", shown(got), shown(l))
			}
		}
		if many == 0 {
			as := l[i]
			as.Body = nil
			for _, x := range l[i].Body {
				as.Body = append(as.Body, withoutAt(x))
			}
			if !sameRule(r, as) {
				t.Fatalf("without remote literals\n%sbecame\n%s", shown(l), shown(got))
			}
		}
	}
}

// sameMeaning holds P13.5 of a program, names and a base; it tells what follows, which relays' facts beside it, and whether neither model is too great.
func sameMeaning(t *testing.T, l []api.Rule, names []string, base []api.Fact) (follow, relays []api.Fact, ok bool) {
	t.Helper()
	w := model.World{Homes: names, Names: names}
	least, e := model.Least(w, l, base)
	m, e2 := model.Least(w, rewritten(t, l...), base)
	if e != api.OK || e2 != api.OK {
		return nil, nil, false
	}
	if got := local.Seen(m); !sameFacts(got, least) {
		t.Fatalf("%q, %+v:\n%+v\nwant\n%+v\nof\n%s", names, base, got, least, shown(l))
	}
	return fact.Minus(least, base), fact.Minus(m, least), true
}

// maker makes programs and bases of few names, so that much follows; one of so many things that it puts into a rule stands there by chance alone (slip 0: none).
type maker struct {
	*rand.Rand
	slip int
}

func pick[T any](m maker, l ...T) T { return l[m.Intn(len(l))] }

func (m maker) slips() bool { return m.slip > 0 && m.Intn(m.slip) == 0 }

// oddTerms are terms that may not be in a program, and such as may not be everywhere.
func oddTerms() []api.Term {
	return []api.Term{{}, {Var: "A", Val: text("a")}, {Var: "A", Val: num(0)}, {Var: "a"}, {Var: "~"}, {Val: api.Const{N: 1, S: "a"}}, {Val: api.Const{Num: true, S: "a"}}, number(7), name(`"`), name("\x00"), variable("Z")}
}

func preds() []string { return []string{"o", "p", "q", "e"} }

// size is how many arguments a predicate has, if nothing slips.
func (m maker) size(pred string) int {
	if m.slips() {
		return m.Intn(api.MaxArgs + 2)
	}
	return (strings.Index("opqe", pred) + 1) / 2
}

// place is a principal's term: most often one of the variables.
func (m maker) place(vars []string) api.Term {
	switch {
	case m.slips():
		return pick(m, oddTerms()...)
	case len(vars) > 0 && m.Intn(4) > 0:
		return variable(pick(m, vars...))
	}
	return name(pick(m, "a", "b", "c"))
}

// perhaps is a term in one of so many cases, and else none.
func (m maker) perhaps(many int, t api.Term) api.Term {
	if m.Intn(many) > 0 {
		return api.Term{}
	}
	return t
}

// argument is a literal's.
func (m maker) argument() api.Term {
	switch m.Intn(12) {
	case 0:
		return number(1 + m.Intn(2))
	case 1:
		return m.place([]string{"A", "B", "C"})
	}
	return variable(pick(m, "A", "B", "B", "C", "C", "X", "X", "Y", "D"))
}

func (m maker) literal(bound []string) api.Literal {
	x := api.Literal{By: m.perhaps(5, m.place([]string{"A", "B", "C", "D"})), Pred: pick(m, preds()...), At: m.perhaps(2, m.place(bound))}
	for range m.size(x.Pred) {
		x.Args = append(x.Args, m.argument())
	}
	return x
}

// rule is one that may be run, if nothing slips.
func (m maker) rule() api.Rule {
	r := api.Rule{Home: m.place([]string{"A", "A", "B"}), Pred: pick(m, "p", "q", "e", "r")}
	for range pick(m, 1, 2, 2, 3, 3, 4, 4) {
		r.Body = append(r.Body, m.literal(check.Vars(r)))
	}
	vars := check.Vars(r)
	r.To = m.perhaps(3, m.place(vars))
	for range m.size(r.Pred) {
		r.Args = append(r.Args, pick(m, m.place(vars), m.place(vars), number(1)))
	}
	if m.slips() {
		r.Pred = pick(m, "~ask0.0", "~", "says", "", "P")
	}
	return r
}

func (m maker) rules(most int) (l []api.Rule) {
	for range 1 + m.Intn(most) {
		l = append(l, m.rule())
	}
	return l
}

// fact is one without a relay, that stands at one of the names.
func (m maker) fact(names []string) api.Fact {
	f := api.Fact{At: pick(m, names...), Pred: pick(m, preds()...)}
	f.By = f.At
	if m.Intn(4) == 0 {
		f.By = pick(m, "a", "b", "c", "d", "")
	}
	for range (strings.Index("opqe", f.Pred) + 1) / 2 {
		f.Args = append(f.Args, m.constant())
	}
	return f
}

func (m maker) constant() api.Const {
	if m.slips() {
		return pick(m, api.Const{}, api.Const{N: 1, S: "a"}, api.Const{Num: true, S: "a"}, text("d"), text("~"))
	}
	return pick(m, text("a"), text("b"), text("a"), text("b"), text("c"), num(1))
}

func (m maker) base(names []string, most int) (l []api.Fact) {
	for range m.Intn(most + 1) {
		l = append(l, m.fact(names))
	}
	return l
}

// names are who there is; a repeated one, one without a letter and one that is no name of a text are among them.
func (m maker) names() []string {
	return pick(m, []string{"a", "b"}, []string{"a", "b"}, []string{"b", "a", "c"}, []string{"a", "b", "c"}, []string{"a"}, []string{"b", "", "b", "a"}, []string{"~", "a", "b"})
}
