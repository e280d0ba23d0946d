package register

import (
	"courant/api"
	"courant/canon"
	"courant/level"
	"courant/names"
	"courant/schema"
	"math"
	"slices"
)

// change makes a change, or none with an error.
func change(r *api.Registry, o api.RegOp) (int, int, api.Errno) {
	switch o.Kind {
	case api.RegRegister:
		return enter(r, o.Name, o.Text)
	case api.RegLevel:
		return setLevel(r, o.Name, o.N)
	case api.RegDelete:
		return hide(r, o.Name, o.N)
	case api.RegRemove:
		return remove(r, o.Name, o.N)
	}
	return 0, 0, api.ErrArg
}

// enter gives the subject of that name the schema that a text tells, unless it has it.
func enter(r *api.Registry, name, text string) (int, int, api.Errno) {
	if !names.Full(name) {
		return 0, 0, api.ErrName
	}
	s, fault := schema.Parse(text)
	if fault != api.OK {
		return 0, 0, fault
	}
	text = canon.Print(s)
	if text == "" {
		return 0, 0, api.ErrLimit
	}
	list := versions(*r, name)
	if v, is := having(*r, list, text); is {
		return v.N, v.ID, api.OK
	}
	if !level.May(Level(*r, name), schemas(*r, list), s) {
		return 0, 0, api.ErrLevel
	}
	if !roomBehind(list) || !roomFor(*r, name) {
		return 0, 0, api.ErrLimit
	}
	v := api.Version{N: greatest(list) + 1, ID: identified(r, text)}
	into := opened(r, name)
	into.Versions = append(into.Versions, v)
	return v.N, v.ID, api.OK
}

// setLevel sets the level of the subject of that name, or, without a name, the whole's.
func setLevel(r *api.Registry, name string, n int) (int, int, api.Errno) {
	switch {
	case !level.Right(n):
		return 0, 0, api.ErrArg
	case name == "":
		r.Level = n
		return n, 0, api.OK
	case !names.Full(name):
		return 0, 0, api.ErrName
	case !roomFor(*r, name):
		return 0, 0, api.ErrLimit
	}
	opened(r, name).Level = n
	return n, 0, api.OK
}

// hide deletes a version; its number and its ID stay.
func hide(r *api.Registry, name string, n int) (int, int, api.Errno) {
	list := versions(*r, name)
	at := standing(list, n)
	if at == none || n == last {
		return 0, 0, api.ErrNone
	}
	list[at].Gone = true
	return n, list[at].ID, api.OK
}

// remove takes a deleted version away. The one with the greatest number stays, so that its number is never given again.
func remove(r *api.Registry, name string, n int) (int, int, api.Errno) {
	list := versions(*r, name)
	at := slices.IndexFunc(list, func(v api.Version) bool { return v.N == n })
	if at == none {
		return 0, 0, api.ErrNone
	}
	v := list[at]
	if !v.Gone || n == greatest(list) {
		return 0, 0, api.ErrState
	}
	opened(r, name).Versions = slices.Delete(list, at, at+1)
	return v.N, v.ID, api.OK
}

// having is the version that has the schema of that text, and is not deleted.
func having(r api.Registry, list []api.Version, text string) (api.Version, bool) {
	var found api.Version
	is := false
versions:
	for _, v := range list {
		if v.Gone {
			continue versions
		}
		if other, there := textOf(r, v.ID); there && other == text {
			found, is = v, true
			break versions
		}
	}
	return found, is
}

// schemas are those of the versions that are not deleted.
func schemas(r api.Registry, list []api.Version) []api.Schema {
	var out []api.Schema
	for _, v := range list {
		if v.Gone {
			continue
		}
		// What a right registry has is parsed without a fault.
		text, _ := textOf(r, v.ID)
		s, _ := schema.Parse(text)
		out = append(out, s)
	}
	return out
}

// greatest is the number of the last version, as numbers rise; 0, if there is none.
func greatest(list []api.Version) int {
	if len(list) == 0 {
		return 0
	}
	return list[len(list)-1].N
}

// roomBehind tells whether there may be a version more, and a number for it.
func roomBehind(list []api.Version) bool {
	return len(list) < api.MaxVersions && greatest(list) < math.MaxInt
}

// roomFor tells whether the subject of that name is there, or may be made.
func roomFor(r api.Registry, name string) bool {
	_, is := spot(r, name)
	return is || len(r.Subjects) < api.MaxSubjects
}

// opened is the subject of that name, which is made, if it was not there.
func opened(r *api.Registry, name string) *api.Subject {
	at, is := spot(*r, name)
	if !is {
		r.Subjects = slices.Insert(r.Subjects, at, api.Subject{Name: name, Level: whole})
	}
	return &r.Subjects[at]
}

// identified is the ID of the schema of that text, which stands behind all others, if it was not there.
func identified(r *api.Registry, text string) int {
	at := slices.Index(r.Schemas, text)
	if at == none {
		at = len(r.Schemas)
		r.Schemas = append(r.Schemas, text)
	}
	return at + 1
}
