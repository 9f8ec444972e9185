package show

import (
	"avowal/api"
	"avowal/lex"
)

// canRule tells whether a rule can be shown.
func canRule(r api.Rule) bool {
	if !canTerm(r.Home) || !canAtom(r.Pred, r.Args) || !canPlace(r.To) {
		return false
	}
	if len(r.Body) < 1 || len(r.Body) > api.MaxBody {
		return false
	}
	for _, l := range r.Body {
		if !canPlace(l.By) || !canAtom(l.Pred, l.Args) || !canPlace(l.At) {
			return false
		}
	}
	return true
}

func canAtom(pred string, args []api.Term) bool {
	if !isWord(pred) || len(args) > api.MaxArgs {
		return false
	}
	for _, t := range args {
		if !canTerm(t) {
			return false
		}
	}
	return true
}

// canPlace tells whether a term can be shown or left out.
func canPlace(t api.Term) bool { return isNone(t) || canTerm(t) }

func isNone(t api.Term) bool { return t == api.Term{} }

// canTerm tells whether a term can be shown; with fields that its kind does not have, it can't: its text would be another one's too.
func canTerm(t api.Term) bool {
	switch {
	case t.Var != "":
		return t.Val == api.Const{} && isToken(t.Var, api.TokVar, t.Var)
	case t.Val.Num:
		return t.Val.S == ""
	}
	return t.Val.N == 0 && canQuote(t.Val.S)
}

// canQuote asks the length ahead of all else, so that no long text is copied to be quoted.
func canQuote(s string) bool {
	return len(s) >= 1 && len(s) <= api.MaxText && isToken(quoted(s), api.TokQuote, s)
}

func quoted(s string) string { return `"` + s + `"` }

// isWord tells whether a text is a word that is not kept.
func isWord(s string) bool {
	switch s {
	case "says", "to", "at":
		return false
	}
	return isToken(s, api.TokWord, s)
}

// isToken tells whether a text is one token of that kind and nothing beside it: blanks and remarks, which lex passes over, are not in the token's own text.
func isToken(text string, kind int, own string) bool {
	l, _, _ := lex.Tokens(text) // beside an error there is none
	return len(l) == 1 && l[0].Kind == kind && l[0].Text == own
}
