package track

import "stadion/api"

const maxHurdles = 64

// CheckHurdles returns the first error of hurdles for a distance, or OK.
func CheckHurdles(h Hurdles, distance int) api.Errno {
	return first(
		lengthError(h.First),
		lengthError(h.Gap),
		lengthError(h.Last),
		rangeError(h.Count, 1, maxHurdles),
		rangeError(distance, 1, api.MaxNumber),
		when(h.First+(h.Count-1)*h.Gap+h.Last != distance, api.ErrSum))
}

// Places returns the places of hurdles.
func Places(h Hurdles, distance int) ([]int, api.Errno) {
	if e := CheckHurdles(h, distance); e != api.OK {
		return nil, e
	}
	var l []int
	for i := range h.Count {
		l = append(l, h.First+i*h.Gap)
	}
	return l, api.OK
}
