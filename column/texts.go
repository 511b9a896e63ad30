package column

import (
	"slices"

	"chapman/api"
	"chapman/dictionary"
)

// Kinds of texts.
const (
	inFull       = 0 // their lengths, and their bytes
	byDictionary = 1 // a dictionary, and their codes in it
)

// Kind returns the kind of the texts among the values of l: G4.
func Kind(l []api.Value) int {
	texts := textsOf(l)
	tooLong := func(s string) bool { return len(s) > api.MaxText }
	if len(texts) > api.MaxList || slices.ContainsFunc(texts, tooLong) {
		return inFull
	}
	kind, _ := shorterForm(texts)
	return kind
}

func textPart(l []api.Value) []byte {
	kind, form := shorterForm(textsOf(l))
	return append([]byte{byte(kind)}, form...)
}

func textsOf(l []api.Value) []string {
	var texts []string
	for v := range ofKind(api.VText, l) {
		texts = append(texts, v.S)
	}
	return texts
}

// shorterForm returns the kind of at most 4096 texts of at most 40 bytes, and their form of this kind.
func shorterForm(texts []string) (int, []byte) {
	full, short := fullForm(texts), dictionaryForm(texts)
	if len(short) < len(full) {
		return byDictionary, short
	}
	return inFull, full
}

// fullForm returns the form 0 of texts.
func fullForm(texts []string) []byte {
	var lengths []int
	var all []byte
	for _, s := range texts {
		lengths = append(lengths, len(s))
		all = append(all, s...)
	}
	return append(coded(lengths), all...)
}

// dictionaryForm returns the form 1 of texts, which are so few and so short that the functions of the dictionary have no error.
func dictionaryForm(texts []string) []byte {
	d := dictionary.Of(texts)
	packed, _ := dictionary.Pack(d)
	codes, _ := dictionary.Codes(d, texts)
	return append(packed, coded(codes)...)
}
