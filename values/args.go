package values

import (
	"slices"
	"strings"

	"latchkey/api"
	"latchkey/ident"
)

// Args says whether l may be: arguments whose names rise.
func Args(l []api.Arg) api.Errno {
	if len(l) > api.MaxArgs {
		return api.ErrArgs
	}
	for i, x := range l {
		if !ident.Name(x.Name) || Check(x.Value) != api.OK || i > 0 && l[i-1].Name >= x.Name {
			return api.ErrArgs
		}
	}
	return api.OK
}

// SameArgs says whether a and b have the same names and values, place by place.
func SameArgs(a, b []api.Arg) bool {
	return slices.EqualFunc(a, b, sameArg)
}

func sameArg(a, b api.Arg) bool {
	return a.Name == b.Name && Same(a.Value, b.Value)
}

// Merge answers all of own's, and those of ctx whose names own has not, by rising names.
func Merge(own, ctx []api.Arg) ([]api.Arg, api.Errno) {
	if Args(own) != api.OK || Args(ctx) != api.OK {
		return nil, api.ErrArgs
	}
	all := make([]api.Arg, 0, len(own)+len(ctx))
	for _, x := range own {
		all = append(all, copied(x))
	}
	for _, x := range ctx {
		if !named(own, x.Name) {
			all = append(all, copied(x))
		}
	}
	slices.SortFunc(all, byName)
	return all, api.OK
}

func named(l []api.Arg, name string) bool {
	return slices.ContainsFunc(l, func(x api.Arg) bool { return x.Name == name })
}

func byName(a, b api.Arg) int {
	return strings.Compare(a.Name, b.Name)
}

// copied gives an argument's texts memory of their own, since the answer may have nothing in common with what came in.
func copied(x api.Arg) api.Arg {
	x.Value.Texts = append([]string(nil), x.Value.Texts...)
	return x
}
