package column_test

import (
	"bytes"
	"math"
	"math/big"
	"regexp"
	"slices"
	"strconv"
	"strings"

	"chapman/api"
	"chapman/dictionary"
	"chapman/runs"
)

// The model enumerates types, counts the zeros at the end of decimal digits, computes with numbers of any size, and says of each part of a chunk what is wrong with it; it uses no code of the package, so that no mistake is made twice.

const (
	least    = math.MinInt
	greatest = math.MaxInt
	unit     = 1000000
	mostSum  = 4000000000000000000
	mostText = 40
	mostList = 4096
)

var textPattern = regexp.MustCompile(`^[ -~]{0,40}$`)

func num(n int) api.Value { return api.Value{K: 2, I: n} }

func str(s string) api.Value { return api.Value{K: 3, S: s} }

func null() api.Value { return api.Value{} }

func no() api.Value { return api.Value{K: 1} }

func yes() api.Value { return api.Value{K: 1, I: 1} }

func bools() api.Type { return api.Type{K: 1} }

func nums(scale int) api.Type { return api.Type{K: 2, Scale: scale} }

func strs() api.Type { return api.Type{K: 3} }

// orNull returns the type that has null too.
func orNull(t api.Type) api.Type {
	t.Null = true
	return t
}

// list returns its arguments.
func list[T any](l ...T) []T { return l }

func many[T any](n int, x T) []T { return slices.Repeat([]T{x}, n) }

// validTypes returns all of them.
func validTypes() []api.Type {
	l := []api.Type{bools(), strs()}
	for scale := range 7 {
		l = append(l, nums(scale))
	}
	for _, t := range l {
		l = append(l, orNull(t))
	}
	return l
}

// someTypes returns a type for each way in which a chunk can look.
func someTypes() []api.Type {
	return []api.Type{bools(), orNull(bools()), nums(0), nums(4), nums(6), orNull(nums(0)), orNull(nums(6)), strs(), orNull(strs())}
}

// modelFitsOne needs a valid type.
func modelFitsOne(t api.Type, v api.Value) bool {
	switch v {
	case null():
		return t.Null
	case no(), yes():
		return t.K == 1
	}
	if t.K != v.K || t.K == 1 {
		return false
	}
	if t.K == 3 {
		return v.I == 0 && textPattern.MatchString(v.S)
	}
	n := big.NewRat(int64(v.I), unit)
	for range t.Scale {
		n.Mul(n, big.NewRat(10, 1))
	}
	return v.S == "" && n.IsInt() && big.NewInt(int64(v.I)).CmpAbs(big.NewInt(mostSum)) <= 0
}

func modelFits(t api.Type, l []api.Value) bool {
	if !slices.Contains(validTypes(), t) {
		return false
	}
	for _, v := range l {
		if !modelFitsOne(t, v) {
			return false
		}
	}
	return true
}

// modelExponent counts zeros at the end of decimal digits.
func modelExponent(l []api.Value) int {
	e := 6
	for _, v := range l {
		if v.K != 2 || v.I == 0 {
			continue
		}
		digits := strconv.Itoa(v.I)
		e = min(e, len(digits)-len(strings.TrimRight(digits, "0")))
	}
	return e
}

func stringsOf(l []api.Value) []string {
	var texts []string
	for _, v := range l {
		if v.K == 3 {
			texts = append(texts, v.S)
		}
	}
	return texts
}

// coded returns a coded list; each caller has at most 4096 numbers.
func coded(l ...int) []byte {
	b, e := runs.Encode(l)
	if e != api.OK {
		panic("a list is not coded")
	}
	return b
}

func packed(d ...string) []byte {
	b, e := dictionary.Pack(d)
	if e != api.OK {
		panic("a dictionary is not packed")
	}
	return b
}

func lengthsOf(texts []string) []int {
	lengths := make([]int, len(texts))
	for i, s := range texts {
		lengths[i] = len(s)
	}
	return lengths
}

// modelForms returns both forms of texts; the code of a text is the number of different ones that are less.
func modelForms(texts []string) [2][]byte {
	set := map[string]int{}
	for _, s := range texts {
		set[s] = 0
	}
	var d []string
	for s := range set {
		d = append(d, s)
	}
	slices.SortFunc(d, func(s, t string) int { return bytes.Compare([]byte(s), []byte(t)) })
	for code, s := range d {
		set[s] = code
	}
	codes := make([]int, len(texts))
	for i, s := range texts {
		codes[i] = set[s]
	}
	full := slices.Concat(coded(lengthsOf(texts)...), []byte(strings.Join(texts, "")))
	return [2][]byte{full, slices.Concat(packed(d...), coded(codes...))}
}

func modelKind(l []api.Value) int {
	texts := stringsOf(l)
	if len(texts) > mostList {
		return 0
	}
	for _, n := range lengthsOf(texts) {
		if n > mostText {
			return 0
		}
	}
	forms := modelForms(texts)
	if len(forms[1]) >= len(forms[0]) {
		return 0
	}
	return 1
}

// nullsOf has 1 for each null, and 0 for each other value.
func nullsOf(l []api.Value) []int {
	nulls := make([]int, len(l))
	for i, v := range l {
		nulls[i] = map[bool]int{true: 1}[v == null()]
	}
	return nulls
}

// valuePart returns the chunk of a list that fits, from behind its nulls on.
func valuePart(t api.Type, l []api.Value) []byte {
	if t.K == 3 {
		kind := modelKind(l)
		return slices.Concat([]byte{byte(kind)}, modelForms(stringsOf(l))[kind])
	}
	divisor, e := 1, modelExponent(l)
	for range e {
		divisor *= 10
	}
	var numbers []int
	for _, v := range l {
		if v.K == 1 {
			numbers = append(numbers, v.I)
		}
		if v.K == 2 {
			numbers = append(numbers, v.I/divisor)
		}
	}
	if t.K == 1 {
		return coded(numbers...)
	}
	return slices.Concat([]byte{byte(e)}, coded(numbers...))
}

// nullPart returns the nulls of a chunk.
func nullPart(t api.Type, l []api.Value) []byte {
	if !t.Null {
		return nil
	}
	return coded(nullsOf(l)...)
}

// chunk returns that of a list that fits, with at most 4096 values.
func chunk(t api.Type, l []api.Value) []byte {
	return slices.Concat(nullPart(t, l), valuePart(t, l))
}

func modelEncode(t api.Type, l []api.Value) ([]byte, api.Errno) {
	switch {
	case !modelFits(t, l):
		return nil, api.ErrType
	case len(l) > mostList:
		return nil, api.ErrBig
	}
	return chunk(t, l), api.OK
}

// modelDecode returns the list, and how many bytes its chunk has.
func modelDecode(t api.Type, b []byte) ([]api.Value, int, api.Errno) {
	if !slices.Contains(validTypes(), t) {
		return nil, 0, api.ErrType
	}
	var nulls []int
	rest, e := b, api.OK
	if t.Null {
		if nulls, rest, e = runs.Decode(b); e != api.OK {
			return nil, 0, e
		}
	}
	read := map[int]func(b []byte) ([]api.Value, []byte, bool, api.Errno){1: readBools, 2: readNumbers, 3: readTexts}[t.K]
	values, rest, proper, e := read(rest)
	if e != api.OK {
		return nil, 0, e
	}
	l := values
	if t.Null {
		l = nil
		for _, n := range nulls {
			switch {
			case n == 1:
				l = append(l, null())
			case n == 0 && len(values) > 0:
				l = append(l, values[0])
				values = values[1:]
			default:
				proper = false
			}
		}
		proper = proper && len(values) == 0
	}
	if !proper || !modelFits(t, l) {
		return nil, 0, api.ErrForm
	}
	return l, len(b) - len(rest), api.OK
}

// readBools, readNumbers and readTexts return the values that b begins with, the bytes behind them, and whether nothing that needs only these values is wrong with them.
func readBools(b []byte) ([]api.Value, []byte, bool, api.Errno) {
	codes, rest, e := runs.Decode(b)
	var l []api.Value
	for _, n := range codes {
		l = append(l, api.Value{K: 1, I: n})
	}
	return l, rest, true, e
}

func readNumbers(b []byte) ([]api.Value, []byte, bool, api.Errno) {
	if len(b) == 0 {
		return nil, nil, false, api.ErrShort
	}
	if b[0] > 6 {
		return nil, nil, false, api.ErrForm
	}
	quotients, rest, e := runs.Decode(b[1:])
	factor := new(big.Int).Exp(big.NewInt(10), big.NewInt(int64(b[0])), nil)
	var l []api.Value
	proper := true
	for _, n := range quotients {
		product := new(big.Int).Mul(big.NewInt(int64(n)), factor)
		proper = proper && product.IsInt64()
		l = append(l, num(int(product.Int64())))
	}
	return l, rest, proper && modelExponent(l) == int(b[0]), e
}

func readTexts(b []byte) ([]api.Value, []byte, bool, api.Errno) {
	if len(b) == 0 {
		return nil, nil, false, api.ErrShort
	}
	kind := int(b[0])
	if kind > 1 {
		return nil, nil, false, api.ErrForm
	}
	texts, rest, proper, e := readForm(kind, b[1:])
	var l []api.Value
	for _, s := range texts {
		l = append(l, str(s))
	}
	return l, rest, proper && e == api.OK && modelKind(l) == kind, e
}

func readForm(kind int, b []byte) ([]string, []byte, bool, api.Errno) {
	var d, texts []string
	e := api.OK
	if kind == 1 {
		if d, b, e = dictionary.Unpack(b); e != api.OK {
			return nil, nil, false, e
		}
	}
	numbers, rest, e := runs.Decode(b)
	if e != api.OK {
		return nil, nil, false, e
	}
	if kind == 1 {
		used := map[int]bool{}
		for _, n := range numbers {
			used[n] = true
			if n >= 0 && n < len(d) {
				texts = append(texts, d[n])
			}
		}
		return texts, rest, len(texts) == len(numbers) && len(used) == len(d), api.OK
	}
	sum := 0
	for _, n := range numbers {
		if n < 0 || n > mostText {
			return nil, nil, false, api.ErrForm
		}
		sum += n
	}
	if sum > len(rest) {
		return nil, nil, false, api.ErrShort
	}
	for _, n := range numbers {
		texts = append(texts, string(rest[:n]))
		rest = rest[n:]
	}
	return texts, rest, true, api.OK
}
