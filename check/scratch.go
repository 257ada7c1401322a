package check

import (
	"slices"

	"wreckage/api"
	"wreckage/flow"
	"wreckage/layout"
)

// roundedSizes returns how many bytes a value of each type of a valid image has in the scratch.
func roundedSizes(l []api.Type) []int {
	sizes := make([]int, len(l))
	for t := range l {
		size, _, _ := layout.Size(l, t)
		sizes[t], _ = layout.Round(size)
	}
	return sizes
}

// depths returns the scratch depth before each instruction, and whether the scratch of the function is right.
func (s scope) depths(sizes []int) ([]int, bool) {
	by := make([]int, len(s.own.Code))
	for i, x := range s.own.Code {
		by[i] = total(sizes, s.pushed(x)) - total(sizes, s.taken(x))
	}
	depths, e := flow.Depths(s.own.Code, by)
	return depths, e == api.OK && s.keepsTypes(depths)
}

// keepsTypes reports whether the types in the scratch do not depend on the way, and each call finds those of the parameters, if
// the depths are right.
func (s scope) keepsTypes(depths []int) bool {
	known := make([][]int, len(depths))
	var goOn func(i int) bool
	goOn = func(i int) bool {
		after, ok := s.after(s.own.Code[i], known[i])
		// Where nothing is left the depth is 0, and from there on it is gone on anyway.
		if !ok || len(after) == 0 {
			return ok
		}
		next, _ := flow.Next(s.own.Code, i)
		for _, k := range next {
			if known[k] == nil {
				known[k] = after
				if !goOn(k) {
					return false
				}
			}
			if !slices.Equal(known[k], after) {
				return false
			}
		}
		return true
	}
	for i, depth := range depths {
		if depth == 0 && !goOn(i) {
			return false
		}
	}
	return true
}

// after returns the types in the scratch behind an instruction, if it finds those that it takes at the end of those before.
func (s scope) after(x api.Instr, before []int) ([]int, bool) {
	taken := s.taken(x)
	left := len(before) - len(taken)
	if left < 0 || !slices.Equal(before[left:], taken) {
		return nil, false
	}
	// The types before are those of other instructions too, so nothing is put into their room.
	return slices.Concat(before[:left], s.pushed(x)), true
}

// pushed returns the types that an instruction adds to the scratch.
func (s scope) pushed(x api.Instr) []int {
	if x.Op != api.OpArg {
		return nil
	}
	return []int{s.typeOf(x.A)}
}

// taken returns the types that an instruction takes from the scratch: those of the parameters of the function that it calls.
func (s scope) taken(x api.Instr) []int {
	f, ok := called(x)
	if !ok {
		return nil
	}
	var l []int
	for _, p := range s.image.Funcs[f].Slots[:s.image.Funcs[f].Params] {
		l = append(l, p.Type)
	}
	return l
}

// total returns how many bytes values of some types have together.
func total(sizes, types []int) int {
	n := 0
	for _, t := range types {
		n += sizes[t]
	}
	return n
}
