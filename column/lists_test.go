package column_test

import (
	"math"
	"math/rand/v2"
	"slices"
	"strconv"
	"strings"

	"chapman/api"
)

// The lists that the tests try.

func newRand() *rand.Rand { return rand.New(rand.NewPCG(7, 7)) }

// edgeNumbers returns the numbers around those where something changes, with both signs.
func edgeNumbers() []int {
	l := []int{least, least + 1, greatest, least / 10 * 10, greatest / unit * unit}
	for _, n := range []int{0, 2, 3, 64, 500000, 1 << 32, 1 << 58, 1000000000000000, mostSum, 1 << 62} {
		l = append(l, n-1, n, n+1, 1-n, -n, -n-1)
	}
	for p := 1; p <= mostSum/10; p *= 10 {
		l = append(l, p-1, p, p+1, 5*p, 1-p, -p, -p-1, -5*p, mostSum-p, mostSum+p, p-mostSum, -p-mostSum)
	}
	return l
}

// edgeStrings returns texts and other strings: all bytes, alone and beside others, and lengths around the greatest one.
func edgeStrings() []string {
	l := []string{"", "a", "ab", "b", "\"", "\\", "null", "\u00e4", "a\u00a0", "\xff\xfe", "a\n"}
	for x := range 256 {
		one := string([]byte{byte(x)})
		l = append(l, one, one+"a", strings.Repeat("a", mostText-1)+one)
	}
	for _, n := range []int{2, 39, 40, 41, 42, 80, 255, 256, 1000} {
		l = append(l, strings.Repeat("~", n), strings.Repeat(" ", n))
	}
	return l
}

// edgeValues returns values of all kinds, and others with wrong kinds, or with parts that their kinds do not have.
func edgeValues() []api.Value {
	l := []api.Value{null(), no(), yes()}
	for _, n := range edgeNumbers() {
		l = append(l, num(n))
	}
	for _, s := range edgeStrings() {
		l = append(l, str(s))
	}
	for _, k := range []int{least, -1, 0, 1, 2, 3, 4, 256, 257, 258, 259, 1<<32 + 2, greatest} {
		for _, n := range []int{0, 1, 2, -1, 256, unit, mostSum} {
			for _, s := range []string{"", "a", "\x00"} {
				l = append(l, api.Value{K: k, I: n, S: s})
			}
		}
	}
	return l
}

// someNumber returns a number that fits the scale; each size and each number of further zeros is as likely.
func someNumber(r *rand.Rand, scale int) int {
	step := int(math.Pow10(6 - r.IntN(scale+1)))
	n := int(r.Uint64()>>(2+r.IntN(62))) / step * step
	if r.IntN(3) == 0 {
		n = r.IntN(20) * step
	}
	n = min(n, mostSum)
	if r.IntN(2) == 0 {
		return -n
	}
	return n
}

// someText returns a text of up to so many bytes, one of few different bytes in half of all cases.
func someText(r *rand.Rand, most int) string {
	b := make([]byte, r.IntN(most+1))
	for i := range b {
		b[i] = byte(32 + r.IntN(95))
		if len(b)%2 == 0 {
			b[i] = "ab"[r.IntN(2)]
		}
	}
	return string(b)
}

// someValue returns a value that fits the type.
func someValue(r *rand.Rand, t api.Type, most int) api.Value {
	switch {
	case t.Null && r.IntN(4) == 0:
		return null()
	case t.K == 1:
		return api.Value{K: 1, I: r.IntN(2)}
	case t.K == 2:
		return num(someNumber(r, t.Scale))
	}
	return str(someText(r, most))
}

// someList returns n values that fit the type: any ones, ones of the same few, sorted ones, or runs.
func someList(r *rand.Rand, t api.Type, n int) []api.Value {
	few := make([]api.Value, 1+r.IntN(5))
	most := []int{2, 10, mostText}[r.IntN(3)]
	for i := range few {
		few[i] = someValue(r, t, most)
	}
	shape := r.IntN(4)
	l := make([]api.Value, n)
	for i := range l {
		switch {
		case shape == 0:
			l[i] = someValue(r, t, most)
		case shape == 1:
			l[i] = few[r.IntN(len(few))]
		case shape == 2:
			l[i] = few[i*len(few)/n]
		case i == 0 || r.IntN(4) == 0:
			l[i] = someValue(r, t, most)
		default:
			l[i] = l[i-1]
		}
	}
	return l
}

// steps returns n numbers from first on, each greater by step than the one before it.
func steps(n, first, step int) []api.Value {
	l := make([]api.Value, n)
	for i := range l {
		l[i] = num(first + i*step)
	}
	return l
}

// numbered returns n different texts of the same length.
func numbered(n int) []api.Value {
	l := make([]api.Value, n)
	for i := range l {
		s := strconv.Itoa(i * 7919 % 10007)
		l[i] = str(strings.Repeat("0", 8-len(s)) + s)
	}
	return l
}

// mixed returns the values of two lists, in turns.
func mixed(l, m []api.Value) []api.Value {
	var both []api.Value
	for i := range max(len(l), len(m)) {
		both = append(both, l[min(i, len(l)):min(i+1, len(l))]...)
		both = append(both, m[min(i, len(m)):min(i+1, len(m))]...)
	}
	return both
}

// edgeLists returns lists without values, of nulls alone, of edges, of equal values, of steps, and of as many values as there can be.
func edgeLists() [][]api.Value {
	long := str(strings.Repeat("~", mostText))
	ls := [][]api.Value{
		nil, {}, steps(3, unit, unit), steps(mostList, -2*unit, unit), steps(300, mostSum-300, 1), {num(mostSum), num(-mostSum)}, {num(0), num(0)}, {num(0), num(70)},
		numbered(mostList), many(mostList, long), slices.Concat(numbered(mostList-1), numbered(1)), slices.Concat(numbered(50), numbered(50)), {long, long, str("")}, {str(""), str("")}, many(5, str("some text")),
	}
	for _, n := range []int{1, 2, 3, 4, 5, 8, 20, 127, 128, 129, mostList} {
		for _, v := range []api.Value{null(), no(), yes(), num(0), num(unit), num(-7), num(mostSum), str(""), str("a"), str("ab"), long} {
			ls = append(ls, many(n, v), mixed(many(n/2, null()), many(n/2, v)))
		}
		ls = append(ls, mixed(many(n/2, no()), many(n/2, yes())), mixed(steps(n/2, 0, unit), many(n/2, null())), mixed(numbered(n/2), many(n/2, null())), numbered(n/2))
	}
	for _, v := range edgeValues() {
		ls = append(ls, []api.Value{v}, []api.Value{null(), v}, []api.Value{v, v, null(), v})
	}
	return ls
}

// eachLonger calls f with each sequence that begins with l and has up to n further elements.
func eachLonger[T any](l, alphabet []T, n int, f func(l []T)) {
	f(l)
	if n == 0 {
		return
	}
	for _, x := range alphabet {
		eachLonger(append(slices.Clone(l), x), alphabet, n-1, f)
	}
}

// eachList calls f with types, and with lists that fit them: all edges, all short lists of a few values, and many others.
func eachList(f func(t api.Type, l []api.Value)) {
	for _, t := range someTypes() {
		fitting := func(l []api.Value) {
			if modelFits(t, l) {
				f(t, l)
			}
		}
		for _, l := range edgeLists() {
			fitting(l)
		}
		alphabet := map[int][]api.Value{1: {no(), yes(), null()}, 2: {num(0), num(30 * unit), num(-700), num(1), null()}, 3: {str(""), str("a"), str("abcdef"), null()}}[t.K]
		if !t.Null {
			alphabet = alphabet[:len(alphabet)-1]
		}
		eachLonger(nil, alphabet, 5, fitting)
		r := newRand()
		for range 500 {
			f(t, someList(r, t, r.IntN(25)))
		}
		for range 15 {
			f(t, someList(r, t, r.IntN(400)))
		}
		f(t, someList(r, t, mostList))
	}
}

// eachShortList calls f with those of up to 400 values.
func eachShortList(f func(t api.Type, l []api.Value)) {
	eachList(func(t api.Type, l []api.Value) {
		if len(l) <= 400 {
			f(t, l)
		}
	})
}

// eachBag calls f with lists that fit no type: values of all kinds, proper or not.
func eachBag(f func(l []api.Value)) {
	edges := edgeValues()
	for _, v := range edges {
		f([]api.Value{v})
		f(many(9, v))
	}
	eachLonger(nil, []api.Value{null(), yes(), num(100), num(-20), str("ab"), {K: 3, I: 1, S: "ab"}, {K: 4, I: 1, S: "ab"}}, 4, f)
	r := newRand()
	for range 3000 {
		var l []api.Value
		for range r.IntN(12) {
			v := edges[r.IntN(len(edges))]
			l = append(l, many(1+r.IntN(2), v)...)
		}
		f(l)
		f(mixed(someList(r, nums(6), r.IntN(12)), someList(r, strs(), r.IntN(12))))
	}
}
