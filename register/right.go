package register

import (
	"courant/api"
	"courant/canon"
	"courant/level"
	"courant/names"
	"courant/schema"
)

// Right tells whether r may be a registry.
func Right(r api.Registry) bool {
	if !level.Right(r.Level) || len(r.Subjects) > api.MaxSubjects {
		return false
	}
	ahead := "" // ahead of all names, as none is empty
	for _, s := range subjects(r) {
		if s.Name <= ahead || !rightSubject(s, len(r.Schemas)) {
			return false
		}
		ahead = s.Name
	}
	return rightTexts(r.Schemas)
}

// rightSubject tells whether s may be a subject, where there are so many schemas.
func rightSubject(s api.Subject, schemas int) bool {
	switch {
	case !names.Full(s.Name), len(s.Versions) > api.MaxVersions:
		return false
	case s.Level == whole: // what has neither a level nor versions would not be there
		return len(s.Versions) > 0 && rightVersions(s.Versions, schemas)
	}
	return level.Right(s.Level) && rightVersions(s.Versions, schemas)
}

// rightVersions tells whether numbers rise, IDs are there, and those of versions that are not deleted are each another one.
func rightVersions(list []api.Version, schemas int) bool {
	right, ahead := true, 0
versions:
	for at, v := range list {
		if v.N <= ahead || v.ID < 1 || v.ID > schemas {
			right = false
			break versions
		}
		for _, other := range list[:at] {
			if v.ID == other.ID && !v.Gone && !other.Gone {
				right = false
				break versions
			}
		}
		ahead = v.N
	}
	return right
}

// rightTexts tells whether each text is that of a schema, in its one form, and none is there twice.
func rightTexts(texts []string) bool {
	ahead := map[string]struct{}{}
	for _, text := range texts {
		s, fault := schema.Parse(text)
		if _, twice := ahead[text]; twice || fault != api.OK || canon.Print(s) != text {
			return false
		}
		ahead[text] = struct{}{}
	}
	return true
}
