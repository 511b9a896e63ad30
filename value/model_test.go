package value_test

import (
	"bytes"
	"encoding/binary"
	"math"
	"math/big"
	"math/rand/v2"
	"regexp"
	"slices"
	"strconv"
	"strings"

	"chapman/api"
	"chapman/bitpack"
)

// The model enumerates types, computes with numbers of any size, matches texts with patterns, and compares values by keys of bytes; it uses no code of the package, so that no mistake is made twice.

const (
	least     = math.MinInt
	greatest  = math.MaxInt
	unit      = 1000000
	most      = 1000000000000000
	mostSum   = 4000000000000000000
	mostText  = 40
	mostList  = 4096
	allPlaces = 6
)

var (
	textPattern   = regexp.MustCompile(`^[ -~]{0,40}$`)
	quotedPattern = regexp.MustCompile(`^"([ !#-\[\]-~]|\\"|\\\\){0,40}"$`)
	numberPattern = regexp.MustCompile(`^-?(0|[1-9][0-9]*)(\.[0-9]{0,5}[1-9])?$`)
)

func num(n int) api.Value { return api.Value{K: 2, I: n} }

func str(s string) api.Value { return api.Value{K: 3, S: s} }

func null() api.Value { return api.Value{} }

func no() api.Value { return api.Value{K: 1} }

func yes() api.Value { return api.Value{K: 1, I: 1} }

func modelValid(v api.Value) bool {
	if v.K == 2 {
		return v.S == "" && big.NewInt(int64(v.I)).CmpAbs(big.NewInt(most)) <= 0
	}
	if v.K == 3 {
		return v.I == 0 && textPattern.MatchString(v.S)
	}
	return slices.Contains([]api.Value{null(), no(), yes()}, v)
}

func modelWide(v api.Value) bool {
	sized := v.K == 2 && big.NewInt(int64(v.I)).CmpAbs(big.NewInt(mostSum)) <= 0
	return modelValid(v) || sized && v.S == ""
}

// validTypes returns all of them.
func validTypes() []api.Type {
	l := []api.Type{{K: 1}, {K: 3}}
	for scale := range 7 {
		l = append(l, api.Type{K: 2, Scale: scale})
	}
	for _, t := range l {
		t.Null = true
		l = append(l, t)
	}
	return l
}

func modelHas(t api.Type, v api.Value) bool {
	if !slices.Contains(validTypes(), t) || !modelValid(v) {
		return false
	}
	if v.K == 0 {
		return t.Null
	}
	n := big.NewRat(int64(v.I), unit)
	for range t.Scale {
		n.Mul(n, big.NewRat(10, 1))
	}
	return t.K == v.K && (t.K != 2 || n.IsInt())
}

// modelKey returns bytes that are ordered as the values are.
func modelKey(v api.Value) []byte {
	b := binary.BigEndian.AppendUint64(nil, uint64(v.K)+1<<63)
	b = binary.BigEndian.AppendUint64(b, uint64(v.I)+1<<63)
	return append(b, v.S...)
}

func modelCmp(a, b api.Value) int { return bytes.Compare(modelKey(a), modelKey(b)) }

func modelCmpList(a, b []api.Value) int {
	if len(a) == 0 || len(b) == 0 {
		return min(len(a), 1) - min(len(b), 1)
	}
	if c := modelCmp(a[0], b[0]); c != 0 {
		return c
	}
	return modelCmpList(a[1:], b[1:])
}

func modelText(v api.Value) string {
	switch {
	case !modelWide(v):
		return ""
	case v.K == 2:
		s := big.NewRat(int64(v.I), unit).FloatString(allPlaces)
		return strings.TrimSuffix(strings.TrimRight(s, "0"), ".")
	case v.K == 3:
		return strconv.Quote(v.S)
	}
	return map[api.Value]string{null(): "null", no(): "false", yes(): "true"}[v]
}

func modelParse(s string) (api.Value, api.Errno) {
	if v, ok := map[string]api.Value{"null": null(), "false": no(), "true": yes()}[s]; ok {
		return v, api.OK
	}
	if quotedPattern.MatchString(s) {
		inner, _ := strconv.Unquote(s)
		return str(inner), api.OK
	}
	if !numberPattern.MatchString(s) || s == "-0" {
		return null(), api.ErrForm
	}
	n, _ := new(big.Rat).SetString(s)
	millionths := n.Mul(n, big.NewRat(unit, 1)).Num()
	if millionths.CmpAbs(big.NewInt(most)) > 0 {
		return null(), api.ErrForm
	}
	return num(int(millionths.Int64())), api.OK
}

func varint(u int) []byte { return bitpack.Varint(nil, uint64(u)) }

// modelForm returns the byte form of a value, and what it would be of a number or a text that is not wide.
func modelForm(v api.Value) []byte {
	behind := [][]byte{nil, {byte(v.I)}, bitpack.Varint(nil, bitpack.Zigzag(v.I)), slices.Concat(varint(len(v.S)), []byte(v.S))}
	return slices.Concat([]byte{byte(v.K)}, behind[v.K])
}

func modelListForm(l []api.Value) []byte {
	pieces := [][]byte{varint(len(l))}
	for _, v := range l {
		pieces = append(pieces, modelForm(v))
	}
	return slices.Concat(pieces...)
}

// modelRead returns the value, and how many bytes its byte form has.
func modelRead(b []byte) (api.Value, int, api.Errno) {
	if len(b) == 0 {
		return null(), 0, api.ErrShort
	}
	if b[0] == 0 {
		return null(), 1, api.OK
	}
	if b[0] == 1 {
		return modelReadBool(b)
	}
	if b[0] > 3 {
		return null(), 0, api.ErrForm
	}
	u, rest, e := bitpack.Read(b[1:])
	if e != api.OK {
		return null(), 0, e
	}
	head := len(b) - len(rest)
	if v := num(bitpack.Unzigzag(u)); b[0] == 2 {
		if !modelWide(v) {
			return null(), 0, api.ErrForm
		}
		return v, head, api.OK
	}
	if u > mostText {
		return null(), 0, api.ErrForm
	}
	if len(rest) < int(u) {
		return null(), 0, api.ErrShort
	}
	v := str(string(rest[:u]))
	if !textPattern.MatchString(v.S) {
		return null(), 0, api.ErrForm
	}
	return v, head + len(v.S), api.OK
}

func modelReadBool(b []byte) (api.Value, int, api.Errno) {
	switch {
	case len(b) == 1:
		return null(), 0, api.ErrShort
	case b[1] == 0:
		return no(), 2, api.OK
	case b[1] == 1:
		return yes(), 2, api.OK
	}
	return null(), 0, api.ErrForm
}

// modelReadList returns the list, and how many bytes its byte form has.
func modelReadList(b []byte) ([]api.Value, int, api.Errno) {
	n, rest, e := bitpack.Read(b)
	if e != api.OK {
		return nil, 0, e
	}
	if n > mostList {
		return nil, 0, api.ErrForm
	}
	at := len(b) - len(rest)
	l := make([]api.Value, n)
	for i := range l {
		v, used, e := modelRead(b[at:])
		if e != api.OK {
			return nil, 0, e
		}
		l[i] = v
		at += used
	}
	return l, at, api.OK
}

func newRand() *rand.Rand { return rand.New(rand.NewPCG(6, 6)) }

// edgeNumbers returns the numbers around those where something changes, with both signs.
func edgeNumbers() []int {
	l := []int{least, least + 1, greatest}
	for _, n := range []int{0, 2, 3, 64, 128, 500000, 8192, 1 << 32, 1 << 53, most, 2 * most, mostSum, 1 << 62} {
		l = append(l, n-1, n, n+1, 1-n, -n, -n-1)
	}
	for p := 1; p <= mostSum/10; p *= 10 {
		l = append(l, p-1, p, p+1, 5*p/10, 1-p, -p, -p-1, -5*p/10)
	}
	for scale := 1; scale <= most; scale *= 10 {
		l = append(l, most-scale, most+scale, scale-most, -most-scale)
	}
	return l
}

// edgeStrings returns texts and other strings: all bytes, alone and between others, and lengths around the greatest one.
func edgeStrings() []string {
	l := []string{"", "a", "ab", "ab ", "b", "A", "\"", "\\", "a\"b", "\\\"", "\"\\", "\\\\", "\"\"", "\\n", "null", "true", "false", "0", "-1", "\u00e4", "\u20ac", "a\u00a0", "\U0001f600", "\xff\xfe", "a\n", "\n"}
	for x := range 256 {
		one := string([]byte{byte(x)})
		l = append(l, one, "a"+one, one+"a", strings.Repeat("a", mostText-1)+one)
	}
	for _, n := range []int{20, 21, 38, 39, 40, 41, 42, 80, 127, 128, 1000} {
		for _, c := range []string{"~", " ", "\"", "\\", "x"} {
			l = append(l, strings.Repeat(c, n))
		}
	}
	return l
}

// edgeValues returns values of all kinds, and others with wrong kinds, or with parts that their kinds do not have.
func edgeValues() []api.Value {
	l := []api.Value{null(), no(), yes()}
	for _, n := range edgeNumbers() {
		l = append(l, num(n))
	}
	for _, s := range edgeStrings() {
		l = append(l, str(s))
	}
	for _, k := range []int{least, -1, 0, 1, 2, 3, 4, 5, 255, 256, 257, 258, 259, 1 << 32, 1<<32 + 2, greatest} {
		for _, n := range []int{0, 1, 2, -1, 255, 256, 257, 1 << 32, most, least} {
			for _, s := range []string{"", "a", "\x00", " "} {
				l = append(l, api.Value{K: k, I: n, S: s})
			}
		}
	}
	return l
}

// some returns those elements that satisfy a condition.
func some[T any](l []T, f func(x T) bool) []T {
	return slices.DeleteFunc(slices.Clone(l), func(x T) bool { return !f(x) })
}

// someNumber returns a number of up to so many bits: each size and each number of decimal places is as likely.
func someNumber(r *rand.Rand, bits int) int {
	n := int(r.Uint64() >> (64 - 1 - r.IntN(bits)))
	if r.IntN(2) == 0 {
		u := int(math.Pow10(r.IntN(7)))
		n = n / u * u
	}
	if r.IntN(2) == 0 {
		return -n
	}
	return n
}

// someText returns a text, one with few different bytes in half of all cases.
func someText(r *rand.Rand, most int) string {
	b := make([]byte, r.IntN(most+1))
	for i := range b {
		b[i] = byte(32 + r.IntN(95))
	}
	for i := range b {
		if len(b)%2 == 0 {
			b[i] = "\"\\a "[r.IntN(4)]
		}
	}
	return string(b)
}

// someValue returns a valid value.
func someValue(r *rand.Rand) api.Value {
	switch r.IntN(8) {
	case 0:
		return null()
	case 1:
		return no()
	case 2:
		return yes()
	case 3, 4:
		return str(someText(r, mostText))
	case 5:
		return str(someText(r, 2))
	case 6:
		return num(someNumber(r, 8))
	}
	return num(someNumber(r, 49))
}

// someWide returns a wide value.
func someWide(r *rand.Rand) api.Value {
	for {
		if v := num(someNumber(r, 62)); r.IntN(3) == 0 && modelWide(v) {
			return v
		}
		if v := someValue(r); r.IntN(2) == 0 {
			return v
		}
	}
}

// someList returns up to n wide values; they are alike in half of all cases.
func someList(r *rand.Rand, n int) []api.Value {
	alike := []api.Value{someWide(r), someWide(r)}
	few := r.IntN(2) == 0
	var l []api.Value
	for range r.IntN(n + 1) {
		v := someWide(r)
		if few {
			v = alike[r.IntN(2)]
		}
		l = append(l, v)
	}
	return l
}

// eachWide calls f with all wide edges, and with many other wide values.
func eachWide(f func(v api.Value)) {
	for _, v := range some(edgeValues(), modelWide) {
		f(v)
	}
	r := newRand()
	for range 10000 {
		f(someWide(r))
	}
}

// eachList calls f with lists of wide values.
func eachList(f func(l []api.Value)) {
	for _, l := range [][]api.Value{nil, {}, {null()}, {no()}, {num(0)}, {str("")}, {yes(), str("x"), null()}, make([]api.Value, 127), make([]api.Value, 128), make([]api.Value, mostList-1), make([]api.Value, mostList), slices.Repeat([]api.Value{str(strings.Repeat("~", mostText))}, mostList), slices.Repeat([]api.Value{num(-mostSum)}, mostList)} {
		f(l)
	}
	eachLonger(nil, []api.Value{null(), no(), yes(), num(0), num(-1), str(""), str("a")}, 4, f)
	for _, v := range some(edgeValues(), modelWide) {
		f([]api.Value{v})
		f([]api.Value{yes(), v, null()})
	}
	r := newRand()
	for range 2000 {
		f(someList(r, 12))
	}
	f(someList(r, mostList))
}

// eachLonger calls f with each sequence that begins with l and has up to n further elements.
func eachLonger[T any](l, alphabet []T, n int, f func(l []T)) {
	f(l)
	if n == 0 {
		return
	}
	for _, x := range alphabet {
		eachLonger(append(slices.Clone(l), x), alphabet, n-1, f)
	}
}

// eachString calls f with each string that begins with s and has up to n further characters.
func eachString(s, characters string, n int, f func(s string)) {
	eachLonger([]byte(s), []byte(characters), n, func(b []byte) { f(string(b)) })
}
