package tests

import (
	"slices"
	"testing"
	"unsafe"
)

// spare is how much room the tests leave behind a list, to see whether something is written there.
const spare = 8

// roomy answers the list with room behind it, which the filler fills, and a picture of all of it.
func roomy[T any](list []T, filler T) ([]T, []T) {
	whole := slices.Clone(list)
	for range spare {
		whole = append(whole, filler)
	}
	return whole[:len(list)], slices.Clone(whole)
}

// stays fails where a list of roomy, or the room behind it, is no more what the picture shows.
func stays[T comparable](t *testing.T, what string, list, picture []T) {
	t.Helper()
	if now := list[:len(picture)]; !slices.Equal(now, picture) {
		t.Errorf("%s: the argument was %v and is %v", what, picture, now)
	}
}

// scribble writes over a list and the room behind it, as one may who has got it as an answer.
func scribble[T any](list []T, mark T) {
	whole := list[:cap(list)]
	for i := range whole {
		whole[i] = mark
	}
}

// within tells whether the bytes of one text lie in the memory of the other one.
func within(part, whole string) bool {
	if part == "" || whole == "" {
		return false
	}
	p := uintptr(unsafe.Pointer(unsafe.StringData(part)))
	w := uintptr(unsafe.Pointer(unsafe.StringData(whole)))
	return p < w+uintptr(len(whole)) && w < p+uintptr(len(part))
}

// apart fails where two texts lie in the same memory.
func apart(t *testing.T, what, a, b string) {
	t.Helper()
	if within(a, b) {
		t.Fatalf("%s: %.30q and %.30q share memory", what, a, b)
	}
}

// over answers the text that lies on these bytes, so that who wrote into it would be seen in them.
func over(row []byte) string {
	return unsafe.String(unsafe.SliceData(row), len(row))
}

// texts calls see with each text of at most length bytes that stand in letters.
func texts(letters string, length int, see func(string)) {
	see("")
	if length == 0 {
		return
	}
	for i := range len(letters) {
		texts(letters, length-1, func(rest string) { see(letters[i:i+1] + rest) })
	}
}
