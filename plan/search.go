package plan

import (
	"slices"
	"strconv"

	"avowal/api"
	"avowal/match"
)

// point is where a search may stand ahead of a step: what is bound and asked from there on, and the ways that lead on. What else was bound on the way there plays no part any more, so that whatever is behind a point is looked for once, however many come to it.
type point struct {
	env  []api.Bind
	ways []way
}

// way is a choice, and the point of the next step to which it leads.
type way struct{ choice, point int }

// pointsOf are, step by step, the points of a search, and behind the last step its end, if it comes so far. Each way leads to the end at last.
func pointsOf(steps []step) [][]point {
	last := map[string]int{}
	for k, s := range steps {
		for _, v := range s.variables() {
			last[v] = k
		}
	}
	all := [][]point{{{}}}
	var bound []string
	for k, s := range steps {
		shared := slices.DeleteFunc(s.variables(), func(v string) bool { return !slices.Contains(bound, v) })
		fresh := slices.DeleteFunc(s.variables(), func(v string) bool { return slices.Contains(bound, v) })
		bound = slices.DeleteFunc(append(bound, fresh...), func(v string) bool { return last[v] <= k })
		all = append(all, onward(all[k], s, shared, bound))
	}
	for k := len(steps) - 2; k >= 0; k-- {
		cut(all[k], all[k+1])
	}
	return all
}

// onward gives points the ways on by a step, and tells the points to which they lead. A choice fits, if the variables that it shares with the point have the same values there; kept are the variables that are asked later on.
func onward(here []point, s step, shared, kept []string) []point {
	fitting := map[string][]int{}
	for i, c := range s.choices {
		k := key(values(shared, c.binds))
		fitting[k] = append(fitting[k], i)
	}
	var next []point
	numbers := map[string]int{}
	for i, p := range here {
		for _, c := range fitting[key(values(shared, p.env))] {
			env := values(kept, slices.Concat(p.env, s.choices[c].binds))
			at := key(env)
			n, was := numbers[at]
			if !was {
				n = len(next)
				numbers[at] = n
				next = append(next, point{env: env})
			}
			here[i].ways = append(here[i].ways, way{choice: c, point: n})
		}
	}
	return next
}

// cut takes away the ways to points from which none leads on.
func cut(here, next []point) {
	for i, p := range here {
		here[i].ways = slices.DeleteFunc(p.ways, func(w way) bool { return len(next[w.point].ways) == 0 })
	}
}

// values are the bindings of some variables, which env has.
func values(vars []string, env []api.Bind) []api.Bind {
	var l []api.Bind
	for _, v := range vars {
		c, _ := match.Value(api.Term{Var: v}, env)
		l = append(l, api.Bind{Var: v, Val: c})
	}
	return l
}

// key is a text of its own for each list of values of the same variables.
func key(env []api.Bind) string {
	var b []byte
	for _, x := range env {
		b = strconv.AppendBool(b, x.Val.Num)
		b = strconv.AppendInt(append(b, ' '), int64(x.Val.N), 10)
		b = strconv.AppendInt(append(b, ' '), int64(len(x.Val.S)), 10)
		b = append(append(b, ' '), x.Val.S...)
	}
	return string(b)
}

// stand is a point on the way that is being gone, and how many of its ways were tried.
type stand struct{ point, tried int }

// ends are the choices by which a search comes to its end, in the literals' order. The way stands in a list, not in calls within calls, so that no body is too long.
func ends(steps []step, points [][]point) [][]int {
	var all [][]int
	chosen := make([]int, len(steps))
	path := []stand{{}}
	for len(path) > 0 {
		k := len(path) - 1
		if k == len(steps) {
			all = append(all, slices.Clone(chosen))
			path = path[:k]
			continue
		}
		here := path[k]
		ways := points[k][here.point].ways
		if here.tried == len(ways) {
			path = path[:k]
			continue
		}
		w := ways[here.tried]
		path[k].tried++
		chosen[steps[k].literal] = w.choice
		path = append(path, stand{point: w.point})
	}
	return all
}
