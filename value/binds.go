package value

import (
	"cmp"
	"slices"

	"tollgate/api"
	"tollgate/word"
)

// CheckBinds says whether binds may be.
func CheckBinds(l []api.Bind) api.Errno {
	_, e := places(l)
	return e
}

// places are the places of the names in binds that may be.
func places(l []api.Bind) (map[string]int, api.Errno) {
	at := map[string]int{}
	for i, b := range l {
		if !word.Name(b.Name) || Check(b.Value) != api.OK {
			return nil, api.ErrArg
		}
		if _, twice := at[b.Name]; twice {
			return nil, api.ErrTwice
		}
		at[b.Name] = i
	}
	return at, api.OK
}

// Sorted are binds by rising names.
func Sorted(l []api.Bind) []api.Bind {
	all := slices.Clone(l)
	slices.SortStableFunc(all, func(a, b api.Bind) int {
		return cmp.Compare(a.Name, b.Name)
	})
	return all
}

// Find is the value of a name.
func Find(l []api.Bind, name string) (api.Value, bool) {
	for _, b := range l {
		if b.Name == name {
			return b.Value, true
		}
	}
	return api.Value{}, false
}

// Put patches binds.
func Put(vars, patch []api.Bind) ([]api.Bind, api.Errno) {
	known, e := places(vars)
	if e != api.OK {
		return nil, e
	}
	said, e := places(patch)
	if e != api.OK {
		return nil, e
	}
	for _, b := range patch {
		i, ok := known[b.Name]
		if !ok {
			return nil, api.ErrVar
		}
		if vars[i].Value.Kind != b.Value.Kind {
			return nil, api.ErrType
		}
	}
	all := slices.Clone(vars)
	for i, b := range all {
		if k, ok := said[b.Name]; ok {
			all[i].Value = patch[k].Value
		}
	}
	return all, api.OK
}
