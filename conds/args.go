package conds

import (
	"slices"
	"strings"

	"latchkey/api"
	"latchkey/ident"
	"latchkey/values"
)

// argsFault asks of arguments what values.Args does, but not how many they are: two lists of as many as may be are merged into one of up to twice as many.
func argsFault(l []api.Arg) api.Errno {
	for i, x := range l {
		if !ident.Name(x.Name) || values.Check(x.Value) != api.OK || i > 0 && l[i-1].Name >= x.Name {
			return api.ErrArgs
		}
	}
	return api.OK
}

// argument answers the value of a name; false, if there is none. The names rise.
func argument(l []api.Arg, name string) (api.Value, bool) {
	i, ok := slices.BinarySearchFunc(l, name, func(x api.Arg, name string) int { return strings.Compare(x.Name, name) })
	if !ok {
		return api.Value{}, false
	}
	return l[i].Value, true
}

// paramKind answers the kind of the parameter of a name; ValNone, if there is none.
func paramKind(l []api.Param, name string) int {
	for _, p := range l {
		if p.Name == name {
			return p.Kind
		}
	}
	return api.ValNone
}

// known answers what the argument of a parameter holds; nil, if that lacks.
func known(c api.Cond, args []api.Arg, name string) worth {
	v, ok := argument(args, name)
	if !ok || v.Kind != paramKind(c.Params, name) {
		return nil
	}
	return worthOf(v)
}

// lacks answers the parameters that c reads and that lack, rising.
func lacks(c api.Cond, args []api.Arg) []string {
	return slices.DeleteFunc(Reads(c), func(name string) bool { return known(c, args, name) != nil })
}
