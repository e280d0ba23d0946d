package schema

import (
	"courant/api"
	"courant/json"
	"courant/names"
	"slices"
	"strconv"
)

// mostSize is the greatest size of a Fixed.
const mostSize = 1000

// fullName is the full name of the definition j, with that space around.
func fullName(j api.Json, space string) (string, bool) {
	name, is := json.Get(j, "name")
	if !is || name.Kind != api.JString {
		return "", false
	}
	if given, has := json.Get(j, "namespace"); has {
		// A name with a point in it would do without the namespace, which has to be right all the same.
		if given.Kind != api.JString || given.Text != "" && !names.Full(given.Text) {
			return "", false
		}
		space = given.Text
	}
	return names.Make(name.Text, space)
}

// fullAliases are the full names of the aliases of the definition j.
func fullAliases(j api.Json, space string) ([]string, bool) {
	list, is := texts(j, "aliases")
	if !is {
		return nil, false
	}
	for i, alias := range list {
		if list[i], is = names.Make(alias, space); !is {
			return nil, false
		}
	}
	return list, true
}

// simpleAliases are those of the field x.
func simpleAliases(x api.Json) ([]string, bool) {
	list, is := texts(x, "aliases")
	for _, alias := range list {
		is = is && names.Simple(alias)
	}
	if !is {
		return nil, false
	}
	return list, true
}

// texts are the strings of the array that an object may have under a key; none, if it does not have that key.
func texts(j api.Json, key string) ([]string, bool) {
	list, has := json.Get(j, key)
	if !has {
		return nil, true
	}
	if list.Kind != api.JArray {
		return nil, false
	}
	out := make([]string, 0, len(list.L))
	for _, x := range list.L {
		if x.Kind != api.JString {
			return nil, false
		}
		out = append(out, x.Text)
	}
	return out, true
}

// symbols are those of the enum j.
func symbols(j api.Json) ([]string, api.Errno) {
	list, is := json.Get(j, "symbols")
	if !is || list.Kind != api.JArray || len(list.L) == 0 {
		return nil, api.ErrType
	}
	out := make([]string, 0, len(list.L))
	for _, x := range list.L {
		if !simple(x) {
			return nil, api.ErrName
		}
		if slices.Contains(out, x.Text) {
			return nil, api.ErrTwice
		}
		out = append(out, x.Text)
	}
	return out, api.OK
}

// symbol is the default of the enum j, and whether it has one.
func symbol(j api.Json, symbols []string) (string, bool, api.Errno) {
	given, has := json.Get(j, "default")
	if !has {
		return "", false, api.OK
	}
	if given.Kind != api.JString || !slices.Contains(symbols, given.Text) {
		return "", false, api.ErrDefault
	}
	return given.Text, true, api.OK
}

// size is that of the fixed j.
func size(j api.Json) (int, api.Errno) {
	given, is := json.Get(j, "size")
	if !is || given.Kind != api.JNumber {
		return 0, api.ErrType
	}
	n, err := strconv.Atoi(given.Text)
	if err != nil || n < 0 || n > mostSize {
		return 0, api.ErrType
	}
	return n, api.OK
}

// simple tells whether j is a string that may be one piece of a name.
func simple(j api.Json) bool {
	return j.Kind == api.JString && names.Simple(j.Text)
}
