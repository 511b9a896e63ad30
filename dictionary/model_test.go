package dictionary_test

import (
	"bytes"
	"math"
	"math/big"
	"math/rand/v2"
	"slices"
	"strings"

	"chapman/api"
	"chapman/bitpack"
)

// The model compares bytes, puts strings in one at a time, and looks for codes and prefixes by trying them; it uses no code of the package, so that no mistake is made twice.

const (
	least       = math.MinInt
	greatest    = math.MaxInt
	mostStrings = 4096
	mostBytes   = 255
)

func compare(s, t string) int { return bytes.Compare([]byte(s), []byte(t)) }

// modelOf puts each string in front of the first one that is not less, unless it is there.
func modelOf(l []string) []string {
	var d []string
	for _, s := range l {
		at := 0
		for at < len(d) && compare(d[at], s) < 0 {
			at++
		}
		if at == len(d) || d[at] != s {
			d = slices.Insert(d, at, s)
		}
	}
	return d
}

func modelValid(d []string) bool {
	for i := 1; i < len(d); i++ {
		if compare(d[i-1], d[i]) >= 0 {
			return false
		}
	}
	return len(d) <= mostStrings && !slices.ContainsFunc(d, func(s string) bool { return len(s) > mostBytes })
}

func modelCodes(d, l []string) ([]int, api.Errno) {
	if !modelValid(d) {
		return nil, api.ErrArg
	}
	var codes []int
	for _, s := range l {
		codes = append(codes, slices.Index(d, s))
	}
	if slices.Contains(codes, -1) {
		return nil, api.ErrNone
	}
	return codes, api.OK
}

func modelStrings(d []string, codes []int) ([]string, api.Errno) {
	if !modelValid(d) {
		return nil, api.ErrArg
	}
	var l []string
	for _, code := range codes {
		for i, s := range d {
			if i == code {
				l = append(l, s)
			}
		}
	}
	if len(l) != len(codes) {
		return nil, api.ErrArg
	}
	return l, api.OK
}

// modelShared returns the length of the longest beginning of t that s has too.
func modelShared(s, t string) int {
	n := len(t)
	for !strings.HasPrefix(s, t[:n]) {
		n--
	}
	return n
}

// varint returns the variable-length code of a number.
func varint(u int) []byte { return bitpack.Varint(nil, uint64(u)) }

// rawPart returns what a packed form would have of a string that shares so many bytes, and has n others, which begin with these.
func rawPart(shared, n int, other string) []byte {
	return slices.Concat(varint(shared), varint(n), []byte(other))
}

// modelForm returns the packed form of a list of strings, whether it is a dictionary or not.
func modelForm(d []string) []byte {
	pieces := [][]byte{varint(len(d))}
	for i, s := range d {
		shared := 0
		if i > 0 {
			shared = modelShared(d[i-1], s)
		}
		pieces = append(pieces, rawPart(shared, len(s)-shared, s[shared:]))
	}
	return slices.Concat(pieces...)
}

func modelPack(d []string) ([]byte, api.Errno) {
	if !modelValid(d) {
		return nil, api.ErrArg
	}
	return modelForm(d), api.OK
}

// modelUnpack returns the dictionary, and how many bytes its packed form has.
func modelUnpack(b []byte) ([]string, int, api.Errno) {
	n, rest, e := bitpack.Read(b)
	if e != api.OK {
		return nil, 0, e
	}
	if n > mostStrings {
		return nil, 0, api.ErrForm
	}
	var d []string
	for range n {
		var shared, other uint64
		if shared, rest, e = bitpack.Read(rest); e != api.OK {
			return nil, 0, e
		}
		if other, rest, e = bitpack.Read(rest); e != api.OK {
			return nil, 0, e
		}
		before := ""
		if len(d) > 0 {
			before = d[len(d)-1]
		}
		length := new(big.Int).Add(new(big.Int).SetUint64(shared), new(big.Int).SetUint64(other))
		if shared > uint64(len(before)) || length.Cmp(big.NewInt(mostBytes)) > 0 {
			return nil, 0, api.ErrForm
		}
		if other > uint64(len(rest)) {
			return nil, 0, api.ErrShort
		}
		s := before[:shared] + string(rest[:other])
		rest = rest[other:]
		if len(d) > 0 && (compare(before, s) >= 0 || modelShared(before, s) != int(shared)) {
			return nil, 0, api.ErrForm
		}
		d = append(d, s)
	}
	return d, len(b) - len(rest), api.OK
}

func newRand() *rand.Rand { return rand.New(rand.NewPCG(5, 5)) }

// someString returns a string of n bytes, of few different ones, of any, or of runes.
func someString(r *rand.Rand, n int) string {
	alphabets := []string{"a", "ab", "abc", "\x00\xff", "\x7f\x80", "abcdefghijklmnopqrstuvwxyz", "\u00e4\u20ac\U0001f600"}
	alphabet := alphabets[r.IntN(len(alphabets))]
	b := make([]byte, n)
	for i := range b {
		b[i] = alphabet[r.IntN(len(alphabet))]
	}
	if n > 0 && r.IntN(4) == 0 {
		b[r.IntN(n)] = byte(r.IntN(256))
	}
	return string(b)
}

// someStrings returns n strings of up to most bytes; some of them are repeated, and some begin as others do.
func someStrings(r *rand.Rand, n, most int) []string {
	var l []string
	for i := range n {
		s := someString(r, r.IntN(r.IntN(most+1)+1))
		if i > 0 && r.IntN(2) == 0 {
			other := l[r.IntN(i)]
			s = other[:r.IntN(len(other)+1)] + s
		}
		if i > 0 && r.IntN(8) == 0 {
			s = l[r.IntN(i)]
		}
		l = append(l, s[:min(len(s), most)])
	}
	return l
}

// numbered returns n different strings in increasing order, each of which has as many bytes as can be, and shares most of them with the one before.
func numbered(n int) []string {
	var d []string
	for i := range n {
		d = append(d, strings.Repeat("x", mostBytes-2)+string([]byte{byte(i / 256), byte(i)}))
	}
	return d
}

// beginnings returns all beginnings of s but for the whole.
func beginnings(s string) []string {
	var l []string
	for n := range len(s) {
		l = append(l, s[:n])
	}
	return l
}

// edgeDictionaries returns dictionaries without strings, with the string without bytes, with bytes at both ends, with the most bytes, and with the most strings.
func edgeDictionaries() [][]string {
	long := strings.Repeat("x", mostBytes)
	top := strings.Repeat("\xff", mostBytes)
	ds := [][]string{
		nil, {}, {""}, {"", "a"}, {"ab", "abc", "b"}, {"", "\x00", "\x00\x00", "\x00\x01", "\x01"}, {"a", "aa", "aaa", "ab", "b"}, {"a", "a\x00"}, {"a\xff", "b"},
		{"\x7f", "\x80", "\xff"}, {"\u00e4", "\u20ac", "\U0001f600"}, {"\x80", "\xc3", "\xc3\xa4", "\xff"}, {"B", "a"}, {"1", "10", "2", "9"},
		{long}, {top}, {"", long}, {long, top}, {long[:254], long}, {long[:127], long[:128], long[:129], long}, {"", top[:254], top},
		beginnings(long), beginnings(top), append(beginnings(long), long, long[:254]+"y", long[:127]+"y", long[:126]+"yy", "y"),
		numbered(mostStrings), numbered(mostStrings - 1), numbered(128), numbered(127),
	}
	var bytesAlone, pairs []string
	for x := range 256 {
		bytesAlone = append(bytesAlone, string([]byte{byte(x)}))
		for y := range 16 {
			pairs = append(pairs, string([]byte{byte(x), byte(y * 17)}))
		}
	}
	return append(ds, bytesAlone, pairs)
}

// eachLonger calls f with each sequence that begins with l and has up to n further elements.
func eachLonger[T any](l, alphabet []T, n int, f func(l []T)) {
	f(l)
	if n == 0 {
		return
	}
	for _, x := range alphabet {
		eachLonger(append(slices.Clone(l), x), alphabet, n-1, f)
	}
}

// eachSubset calls f with each list that leaves out some of these strings.
func eachSubset(l []string, f func(l []string)) {
	for set := range 1 << len(l) {
		var some []string
		for i, s := range l {
			if set>>i&1 == 1 {
				some = append(some, s)
			}
		}
		f(some)
	}
}

// eachDictionary calls f with all edges, all dictionaries of some short strings, and many others.
func eachDictionary(f func(d []string)) {
	for _, d := range edgeDictionaries() {
		f(d)
	}
	eachSubset([]string{"", "a", "aa", "aab", "ab", "abb", "b", "ba"}, f)
	eachSubset([]string{"\x00", "\x00\xff", "\x7f", "\x80", "\x80\x00", "\xff", "\xff\xff"}, f)
	r := newRand()
	for range 3000 {
		f(modelOf(someStrings(r, r.IntN(12), 8)))
	}
	for range 100 {
		f(modelOf(someStrings(r, r.IntN(60), mostBytes)))
	}
	for _, n := range []int{126, 127, 128, 300} {
		f(modelOf(someStrings(r, n, 40)))
	}
}

// eachList calls f with lists of strings, most of which are no dictionaries.
func eachList(f func(l []string)) {
	long := strings.Repeat("x", mostBytes+1)
	for _, l := range [][]string{{"", ""}, {"a", ""}, {"b", "a"}, {"a", "a"}, {long}, {"a", long}, {long, "y"}, {long, long}, {long + "x"}, {"x", "y", long[1:]}, numbered(mostStrings + 1), append(numbered(mostStrings), "x"), append(numbered(mostStrings), "y"), make([]string, mostStrings+1)} {
		f(l)
	}
	eachLonger(nil, []string{"", "a", "ab", "b", "\xff"}, 5, f)
	r := newRand()
	for range 1000 {
		f(someStrings(r, r.IntN(20), 4))
		f(someStrings(r, r.IntN(4), mostBytes+3))
	}
	f(someStrings(r, 1000, 10))
}
