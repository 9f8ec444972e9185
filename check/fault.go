package check

import (
	"slices"

	"avowal/api"
	"avowal/show"
)

// inHead is the place of a rule's home and head; a literal's is its number.
const inHead = -1

// fault tells what is wrong first with a rule, and at which place. In sizes stands how many arguments the predicates have that came ahead of it; its own are put there.
func fault(r api.Rule, sizes map[string]int) (e api.Errno, place int) {
	if _, e := show.Rule(r); e != api.OK {
		return api.ErrShape, inHead
	}
	if k, found := search(r, hasNumber); found {
		return api.ErrPlace, k
	}
	if k, found := search(r, hasOtherSize(sizes)); found {
		return api.ErrArity, k
	}
	if k, found := search(r, isFree(r)); found {
		return api.ErrFree, k
	}
	if k, found := search(r, isOutOfRange(r)); found {
		return api.ErrRange, k
	}
	return api.OK, inHead
}

// search tells the first place of a rule that is wrong, if there is one. The head is asked as a literal that Home says at To.
func search(r api.Rule, wrong func(place int, x api.Literal) bool) (place int, found bool) {
	if wrong(inHead, api.Literal{By: r.Home, Pred: r.Pred, Args: r.Args, At: r.To}) {
		return inHead, true
	}
	for k, x := range r.Body {
		if wrong(k, x) {
			return k, true
		}
	}
	return 0, false
}

// hasNumber tells whether a number stands where a principal must.
func hasNumber(_ int, x api.Literal) bool { return x.By.Val.Num || x.At.Val.Num }

// hasOtherSize tells of a predicate whether it came with another number of arguments; the first that comes is the one that counts.
func hasOtherSize(sizes map[string]int) func(int, api.Literal) bool {
	return func(_ int, x api.Literal) bool {
		first, came := sizes[x.Pred]
		if !came {
			sizes[x.Pred] = len(x.Args)
			return false
		}
		return len(x.Args) != first
	}
}

// isFree tells of a literal whether its At is not bound ahead of it.
func isFree(r api.Rule) func(int, api.Literal) bool {
	return func(k int, x api.Literal) bool { return k != inHead && lacks(Bound(r, k), x.At) }
}

// isOutOfRange tells of the head whether one of its variables is none of the rule's.
func isOutOfRange(r api.Rule) func(int, api.Literal) bool {
	vars := Vars(r)
	outside := func(t api.Term) bool { return lacks(vars, t) }
	return func(k int, x api.Literal) bool {
		return k == inHead && (outside(x.At) || slices.ContainsFunc(x.Args, outside))
	}
}

// lacks tells whether a term is a variable that is none of a list.
func lacks(vars []string, t api.Term) bool { return t.Var != "" && !slices.Contains(vars, t.Var) }
