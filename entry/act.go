package entry

import (
	"stadion/api"
	"stadion/mark"
)

// fields is a set of fields of acts.
type fields int

// The fields of acts in the order in which they are checked.
const (
	fieldAthlete fields = 1 << iota
	fieldClub
	fieldCategory
	fieldContest
	fieldFrom
	fieldTo
	fieldMark
	fieldNames
)

// kind is what the acts of a kind have in common: what they need, when they are legal, and how they change a state.
type kind struct {
	needs  fields
	legal  func(m Meeting, s State, a Act) api.Errno
	change func(s *State, a Act)
}

func kinds() map[string]kind {
	return map[string]kind{
		"club":     {fieldClub, legalClub, addClub},
		"athlete":  {fieldAthlete | fieldClub | fieldCategory | fieldFrom, legalAthlete, addAthlete},
		"licence":  {fieldAthlete | fieldFrom | fieldTo, legalLicence, addLicence},
		"transfer": {fieldAthlete | fieldClub, legalTransfer, transfer},
		"enter":    {fieldAthlete | fieldContest | fieldMark, legalEnter, addEntry},
		"withdraw": {fieldAthlete | fieldContest, legalWithdraw, withdraw},
		"check":    {fieldAthlete | fieldContest, legalCheck, checkIn},
		"team":     {fieldClub | fieldContest | fieldNames, legalTeam, setTeam},
	}
}

// CheckAct returns the first error of an act by itself, or OK.
func CheckAct(a Act) api.Errno {
	k, known := kinds()[a.Kind]
	return first(
		when(!known, api.ErrKind),
		dayError(a.Day),
		neededError(k.needs, a),
		when(k.needs&fieldTo != 0 && a.From > a.To, api.ErrOrder),
		otherError(k.needs, a),
	)
}

// content is what an act has in a field: the error of this, if the field is needed, and whether it is empty.
type content struct {
	field fields
	e     api.Errno
	empty bool
}

func contents(a Act) []content {
	return []content{
		{fieldAthlete, nameError(a.Athlete), a.Athlete == ""},
		{fieldClub, nameError(a.Club), a.Club == ""},
		{fieldCategory, nameError(a.Category), a.Category == ""},
		{fieldContest, nameError(a.Contest), a.Contest == ""},
		{fieldFrom, dayError(a.From), a.From == 0},
		{fieldTo, dayError(a.To), a.To == 0},
		{fieldMark, mark.CheckMark(a.Mark), a.Mark == api.Mark{}},
		{fieldNames, namesError(a.Names), len(a.Names) == 0},
	}
}

func namesError(names []string) api.Errno {
	if len(names) > maxTeam {
		return api.ErrMany
	}
	return firstOf(names, func(_ []string, name string) api.Errno { return nameError(name) })
}

// neededError returns the first error of the fields that an act needs.
func neededError(needs fields, a Act) api.Errno {
	return firstOf(contents(a), func(_ []content, c content) api.Errno { return when(needs&c.field != 0, c.e) })
}

// otherError returns the error of the fields that an act does not need.
func otherError(needs fields, a Act) api.Errno {
	return firstOf(contents(a), func(_ []content, c content) api.Errno {
		return when(needs&c.field == 0 && !c.empty, api.ErrForm)
	})
}
