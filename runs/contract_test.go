package runs_test

import (
	"bytes"
	"slices"
	"testing"

	"chapman/api"
	"chapman/bitpack"
	"chapman/runs"
)

// These tests are for P4.1 (contract), for D5 and for P1 of the document.

// some returns the first elements of a list, for a message.
func some[T any](l []T) []T { return l[:min(len(l), 40)] }

func checkRuns(t *testing.T, l []int) {
	t.Helper()
	values, lengths := runs.Runs(l)
	wantValues, wantLengths := modelRuns(l)
	if !slices.Equal(values, wantValues) || !slices.Equal(lengths, wantLengths) {
		t.Errorf("Runs(%v): %v, %v instead of %v, %v", some(l), some(values), some(lengths), some(wantValues), some(wantLengths))
	}
}

func checkExpand(t *testing.T, values, lengths []int) {
	t.Helper()
	l, e := runs.Expand(values, lengths)
	want, wantE := modelExpand(values, lengths)
	if !slices.Equal(l, want) || e != wantE {
		t.Errorf("Expand(%v, %v): %v, %d instead of %v, %d", some(values), some(lengths), some(l), e, some(want), wantE)
	}
}

func checkDifferences(t *testing.T, l []int) {
	t.Helper()
	if d, want := runs.Differences(l), modelDifferences(l); !slices.Equal(d, want) {
		t.Errorf("Differences(%v): %v instead of %v", some(l), some(d), some(want))
	}
	if s, want := runs.Sums(l), modelSums(l); !slices.Equal(s, want) {
		t.Errorf("Sums(%v): %v instead of %v", some(l), some(s), some(want))
	}
}

func checkEncode(t *testing.T, l []int) {
	t.Helper()
	if k, want := runs.Kind(l), modelKind(l); k != want {
		t.Errorf("Kind of %d elements %v: %d instead of %d", len(l), some(l), k, want)
	}
	if b, want := encoded(t, l), modelEncode(l); !bytes.Equal(b, want) {
		t.Errorf("Encode of %d elements %v: %v instead of %v", len(l), some(l), some(b), some(want))
	}
}

func checkDecode(t *testing.T, b []byte) {
	t.Helper()
	l, rest, e := runs.Decode(b)
	want, used, wantE := modelDecode(b)
	var behind []byte
	if wantE == api.OK {
		behind = b[used:]
	}
	if !slices.Equal(l, want) || !bytes.Equal(rest, behind) || e != wantE {
		t.Errorf("Decode(%v): %v, %v, %d instead of %v, %v, %d", some(b), some(l), some(rest), e, some(want), some(behind), wantE)
	}
}

// packedRuns returns the byte of a kind and both lists, packed, whether they are the runs of a list or not.
func packedRuns(kind byte, values, lengths []int) []byte {
	first, _ := bitpack.Pack(values)
	second, _ := bitpack.Pack(lengths)
	return slices.Concat([]byte{kind}, first, second)
}

// encoded returns the encoding of a list of at most 4096 elements.
func encoded(t *testing.T, l []int) []byte {
	t.Helper()
	b, e := runs.Encode(l)
	if e != api.OK {
		t.Fatalf("Encode of %d elements: %d", len(l), e)
	}
	return b
}

func TestExamples(t *testing.T) {
	l := []int{7, 7, 7, 2}
	if values, lengths := runs.Runs(l); !slices.Equal(values, []int{7, 2}) || !slices.Equal(lengths, []int{3, 1}) {
		t.Errorf("Runs(%v): %v, %v", l, values, lengths)
	}
	if d := runs.Differences(l); !slices.Equal(d, []int{7, 0, 0, -5}) {
		t.Errorf("Differences(%v): %v", l, d)
	}
	if b, e := runs.Encode(nil); !bytes.Equal(b, []byte{0, 0}) || e != api.OK {
		t.Errorf("Encode of no elements: %v, %d", b, e)
	}
	hundred := steps(100, 1, 1)
	if k := runs.Kind(hundred); k != 2 {
		t.Errorf("Kind of 1 to 100: %d", k)
	}
	if d := runs.Differences(hundred); !slices.Equal(d, many(100, 1)) {
		t.Errorf("Differences of 1 to 100: %v", d)
	}
	if b, e := runs.Encode(hundred); !bytes.Equal(b, []byte{2, 100, 2, 0}) || e != api.OK {
		t.Errorf("Encode of 1 to 100: %v, %d", b, e)
	}
}

func TestRuns(t *testing.T) {
	for _, c := range []struct{ l, values, lengths []int }{
		{nil, nil, nil}, {[]int{}, nil, nil},
		{[]int{0}, []int{0}, []int{1}}, {[]int{4, 4}, []int{4}, []int{2}}, {[]int{4, 5}, []int{4, 5}, []int{1, 1}},
		{[]int{1, 2, 2, 1, 1}, []int{1, 2, 1}, []int{1, 2, 2}}, {[]int{0, 0, 0, 1}, []int{0, 1}, []int{3, 1}}, {[]int{1, 0, 0, 0}, []int{1, 0}, []int{1, 3}},
		{[]int{least, least, greatest, -1, greatest}, []int{least, greatest, -1, greatest}, []int{2, 1, 1, 1}},
		{many(100000, -3), []int{-3}, []int{100000}},
	} {
		values, lengths := runs.Runs(c.l)
		if !slices.Equal(values, c.values) || !slices.Equal(lengths, c.lengths) {
			t.Errorf("Runs(%v): %v, %v instead of %v, %v", some(c.l), values, lengths, c.values, c.lengths)
		}
	}
	eachList(func(l []int) { checkRuns(t, l) })
	r := newRand()
	for _, n := range []int{mostList + 1, 2 * mostList, 100000} {
		checkRuns(t, withRuns(r, n, 100))
		checkRuns(t, steps(n, 5, 2))
	}
}

func TestExpand(t *testing.T) {
	for _, c := range []struct {
		values, lengths, l []int
		e                  api.Errno
	}{
		{nil, nil, nil, api.OK}, {[]int{}, nil, nil, api.OK},
		{[]int{7, 2}, []int{3, 1}, []int{7, 7, 7, 2}, api.OK}, {[]int{1, 2, 1}, []int{1, 1, 2}, []int{1, 2, 1, 1}, api.OK}, {[]int{least, greatest}, []int{1, 2}, []int{least, greatest, greatest}, api.OK},
		{[]int{0}, []int{mostList}, many(mostList, 0), api.OK}, {steps(mostList, 1, 1), many(mostList, 1), steps(mostList, 1, 1), api.OK}, {[]int{1, 1 << 40}, []int{1, mostList - 1}, append([]int{1}, many(mostList-1, 1<<40)...), api.OK},
		// Lists of different lengths.
		{[]int{1}, nil, nil, api.ErrArg}, {nil, []int{1}, nil, api.ErrArg}, {[]int{1, 2}, []int{1}, nil, api.ErrArg}, {[]int{1}, []int{1, 2}, nil, api.ErrArg}, {[]int{1}, []int{5000, 1}, nil, api.ErrArg}, {[]int{1, 2}, []int{5000}, nil, api.ErrArg},
		// Lengths below 1.
		{[]int{1}, []int{0}, nil, api.ErrArg}, {[]int{1}, []int{-1}, nil, api.ErrArg}, {[]int{1}, []int{least}, nil, api.ErrArg}, {[]int{1, 2}, []int{0, 1}, nil, api.ErrArg}, {[]int{1, 2}, []int{1, 0}, nil, api.ErrArg}, {[]int{1, 2, 3}, []int{2, -1, 2}, nil, api.ErrArg},
		// Equal neighbours.
		{[]int{1, 1}, []int{1, 1}, nil, api.ErrArg}, {[]int{1, 2, 2}, []int{1, 1, 1}, nil, api.ErrArg}, {[]int{0, 0, 1}, []int{1, 1, 1}, nil, api.ErrArg},
		// Too many elements, and what comes before that.
		{[]int{1}, []int{mostList + 1}, nil, api.ErrBig}, {[]int{1, 2}, []int{mostList, 1}, nil, api.ErrBig}, {[]int{1, 2}, []int{1, mostList}, nil, api.ErrBig}, {steps(mostList+1, 1, 1), many(mostList+1, 1), nil, api.ErrBig},
		{[]int{1}, []int{greatest}, nil, api.ErrBig}, {[]int{1, 2}, []int{1, greatest}, nil, api.ErrBig}, {[]int{1, 2}, []int{greatest, 1}, nil, api.ErrBig}, {[]int{1, 2, 1}, []int{greatest, greatest, 2}, nil, api.ErrBig}, {[]int{1, 2, 1}, []int{1, greatest, greatest}, nil, api.ErrBig},
		{[]int{1, 2}, []int{5000, -1}, nil, api.ErrArg}, {[]int{1, 2}, []int{5000, 0}, nil, api.ErrArg}, {[]int{1, 2, 2}, []int{5000, 1, 1}, nil, api.ErrArg}, {[]int{1, 1}, []int{greatest, greatest}, nil, api.ErrArg}, {[]int{1, 2}, []int{-1000, 5000}, nil, api.ErrArg},
	} {
		l, e := runs.Expand(c.values, c.lengths)
		if !slices.Equal(l, c.l) || e != c.e {
			t.Errorf("Expand(%v, %v): %v, %d instead of %v, %d", some(c.values), some(c.lengths), some(l), e, some(c.l), c.e)
		}
		if e != api.OK && l != nil {
			t.Errorf("Expand(%v, %v): %v with the error %d", some(c.values), some(c.lengths), l, e)
		}
	}
}

func TestExpandFollowsTheModel(t *testing.T) {
	eachLonger(nil, []int{-1, 0, greatest}, 3, func(values []int) {
		eachLonger(nil, []int{least, -1, 0, 1, 2, 4094, 4095, 4096, 4097, greatest}, 3, func(lengths []int) {
			checkExpand(t, values, lengths)
		})
	})
	eachList(func(l []int) {
		values, lengths := modelRuns(l)
		checkExpand(t, values, lengths)
		checkExpand(t, l, many(len(l), 1))
	})
	r := newRand()
	for range 5000 {
		n := r.IntN(8)
		lengths := noise(r, n)
		for i := range lengths {
			lengths[i] &= 1<<r.IntN(13) - 1
		}
		checkExpand(t, noise(r, n), lengths)
	}
}

func TestDifferences(t *testing.T) {
	for _, c := range []struct{ l, d []int }{
		{nil, nil}, {[]int{}, nil}, {[]int{-4}, []int{-4}}, {[]int{least}, []int{least}}, {[]int{0, 0}, []int{0, 0}}, {[]int{3, 1, 1, 9}, []int{3, -2, 0, 8}},
		{[]int{least, greatest, 0}, []int{least, -1, least + 1}}, {[]int{greatest, least}, []int{greatest, 1}}, {[]int{0, least, 0}, []int{0, least, least}}, {[]int{-1, greatest, -2}, []int{-1, least, greatest}},
	} {
		if d := runs.Differences(c.l); !slices.Equal(d, c.d) {
			t.Errorf("Differences(%v): %v instead of %v", c.l, d, c.d)
		}
		if l := runs.Sums(c.d); !slices.Equal(l, c.l) {
			t.Errorf("Sums(%v): %v instead of %v", c.d, l, c.l)
		}
	}
	eachList(func(l []int) { checkDifferences(t, l) })
	checkDifferences(t, noise(newRand(), 100000))
}

func TestEncode(t *testing.T) {
	for _, c := range []struct {
		l    []int
		kind int
		b    []byte
	}{
		{nil, 0, []byte{0, 0}}, {[]int{0}, 0, []byte{0, 1, 0, 0}}, {[]int{-1}, 0, []byte{0, 1, 1, 0}}, {[]int{7, 7}, 0, []byte{0, 2, 14, 0}}, {many(300, 5), 0, []byte{0, 172, 2, 10, 0}},
		{append(many(40, 5), 900), 1, []byte{1, 2, 10, 10, 0, 0xfc, 0x0d, 2, 2, 6, 39, 0}},
		{[]int{2, 4, 6, 8, 10, 12, 14, 16}, 2, []byte{2, 8, 4, 0}}, {steps(100, 0, 1), 3, []byte{3, 2, 0, 1, 2, 2, 2, 7, 0, 49}},
		{steps(12, 1, 1), 2, []byte{2, 12, 2, 0}}, {[]int{1, 2}, 2, []byte{2, 2, 2, 0}}, {steps(4, 100, 100), 2, []byte{2, 4, 200, 1, 0}},
		// Of several forms with as few bytes, the one with the least number.
		{[]int{-1, 0}, 0, []byte{0, 2, 1, 1, 2}}, {[]int{5}, 0, []byte{0, 1, 10, 0}}, {[]int{least}, 0, []byte{0, 1, 255, 255, 255, 255, 255, 255, 255, 255, 255, 1, 0}},
	} {
		if k := runs.Kind(c.l); k != c.kind {
			t.Errorf("Kind(%v): %d instead of %d, with the sizes %v", some(c.l), k, c.kind, modelSizes(c.l))
		}
		if b := encoded(t, c.l); !bytes.Equal(b, c.b) {
			t.Errorf("Encode(%v): %v instead of %v", some(c.l), b, c.b)
		}
		if l, rest, e := runs.Decode(c.b); !slices.Equal(l, c.l) || len(rest) != 0 || e != api.OK {
			t.Errorf("Decode(%v): %v, %v, %d instead of %v", c.b, some(l), rest, e, some(c.l))
		}
	}
}

// Each kind occurs, and so does each choice among two forms with as few bytes.
func TestEncodeFollowsTheModel(t *testing.T) {
	var kinds [4]int
	var equal [4][4]int
	eachList(func(l []int) {
		checkEncode(t, l)
		kind, sizes := modelKind(l), modelSizes(l)
		kinds[kind]++
		for other := kind + 1; other < 4; other++ {
			if sizes[other] == sizes[kind] {
				equal[kind][other]++
			}
		}
	})
	for kind, n := range kinds {
		if n < 1000 {
			t.Errorf("only %d lists of the kind %d", n, kind)
		}
		for other := kind + 1; other < 4; other++ {
			if equal[kind][other] == 0 {
				t.Errorf("no list of the kind %d with as few bytes in the form %d", kind, other)
			}
		}
	}
}

// D3, D4: more than 4096 elements have a kind, but no encoding.
func TestLongLists(t *testing.T) {
	r := newRand()
	check := func(l []int) {
		t.Helper()
		if b, e := runs.Encode(l); b != nil || e != api.ErrBig {
			t.Errorf("Encode of %d elements: %d bytes, %d", len(l), len(b), e)
		}
		if k, want := runs.Kind(l), modelKind(l); k != want {
			t.Errorf("Kind of %d elements %v: %d instead of %d", len(l), some(l), k, want)
		}
	}
	var kinds [4]int
	for _, n := range []int{mostList + 1, mostList + 2, 2 * mostList, 16383, 16384, 40000} {
		for range 8 {
			l := someList(r, n)
			check(l)
			kinds[modelKind(l)]++
		}
		for kind, l := range [][]int{many(n, 5), append(many(n, 5), 900), steps(n, 1, 1), steps(n, 1000, 1)} {
			check(l)
			if k := runs.Kind(l); k != kind {
				t.Errorf("Kind of %d elements %v: %d instead of %d", n, some(l), k, kind)
			}
		}
	}
	for kind, n := range kinds {
		if n == 0 {
			t.Errorf("no list of the kind %d among those by chance", kind)
		}
	}
	if b, e := runs.Encode(make([]int, mostList)); !bytes.Equal(b, []byte{0, 128, 32, 0, 0}) || e != api.OK {
		t.Errorf("Encode of %d zeros: %v, %d", mostList, b, e)
	}
}

func TestDecode(t *testing.T) {
	far := append(many(mostList-1, 7), -1000000)
	for _, c := range []struct {
		b    []byte
		l    []int
		rest []byte
		e    api.Errno
	}{
		{nil, nil, nil, api.ErrShort}, {[]byte{}, nil, nil, api.ErrShort},
		{[]byte{0, 0}, nil, nil, api.OK}, {[]byte{0, 0, 0, 0}, nil, []byte{0, 0}, api.OK}, {[]byte{0, 2, 14, 0, 4}, []int{7, 7}, []byte{4}, api.OK}, {[]byte{2, 8, 4, 0, 255, 255}, steps(8, 2, 2), []byte{255, 255}, api.OK},
		// The kind.
		{[]byte{4}, nil, nil, api.ErrForm}, {[]byte{4, 0}, nil, nil, api.ErrForm}, {[]byte{5, 0}, nil, nil, api.ErrForm}, {[]byte{128, 0}, nil, nil, api.ErrForm}, {[]byte{255}, nil, nil, api.ErrForm}, {[]byte{255, 128}, nil, nil, api.ErrForm},
		{[]byte{0}, nil, nil, api.ErrShort}, {[]byte{1}, nil, nil, api.ErrShort}, {[]byte{2}, nil, nil, api.ErrShort}, {[]byte{3}, nil, nil, api.ErrShort},
		// A packed form that is none, or is cut short, in order.
		{[]byte{0, 1, 14, 1, 0}, nil, nil, api.ErrForm}, {[]byte{0, 129, 32, 0, 0}, nil, nil, api.ErrForm}, {[]byte{2, 128, 0}, nil, nil, api.ErrForm}, {[]byte{0, 2, 14}, nil, nil, api.ErrShort}, {[]byte{2, 8, 4}, nil, nil, api.ErrShort},
		{[]byte{1, 1, 14, 1, 0}, nil, nil, api.ErrForm}, {[]byte{1, 1, 14, 65}, nil, nil, api.ErrForm}, {[]byte{1, 1, 14}, nil, nil, api.ErrShort}, {[]byte{1, 1, 14, 0}, nil, nil, api.ErrShort}, {[]byte{1, 1, 14, 0, 1}, nil, nil, api.ErrShort}, {[]byte{3, 1, 14, 0, 128}, nil, nil, api.ErrShort},
		{[]byte{1, 1, 14, 0, 1, 4, 65}, nil, nil, api.ErrForm}, {[]byte{3, 1, 14, 0, 1, 4, 1, 0}, nil, nil, api.ErrForm}, {[]byte{3, 1, 14, 0, 129, 32, 0, 0}, nil, nil, api.ErrForm},
		// The form 1 of no list: the packed forms come first.
		{[]byte{1, 2, 14, 0}, nil, nil, api.ErrShort}, {[]byte{1, 2, 14, 0, 2, 2}, nil, nil, api.ErrShort}, {[]byte{1, 2, 14, 0, 2, 2, 0}, nil, nil, api.ErrForm},
		{[]byte{1, 1, 14, 0, 2, 4, 0}, nil, nil, api.ErrForm}, {[]byte{1, 0, 1, 4, 0}, nil, nil, api.ErrForm}, {[]byte{1, 1, 14, 0, 0}, nil, nil, api.ErrForm}, {[]byte{3, 1, 14, 0, 0}, nil, nil, api.ErrForm},
		{[]byte{1, 1, 14, 0, 1, 0, 0}, nil, nil, api.ErrForm}, {[]byte{1, 1, 14, 0, 1, 1, 0}, nil, nil, api.ErrForm}, {[]byte{3, 1, 14, 0, 1, 1, 0}, nil, nil, api.ErrForm},
		// A list of another kind.
		{[]byte{1, 0, 0}, nil, nil, api.ErrForm}, {[]byte{2, 0}, nil, nil, api.ErrForm}, {[]byte{3, 0, 0}, nil, nil, api.ErrForm}, {[]byte{1, 1, 14, 0, 1, 4, 0}, nil, nil, api.ErrForm}, {[]byte{2, 1, 14, 0}, nil, nil, api.ErrForm}, {[]byte{2, 2, 2, 0}, steps(2, 1, 1), nil, api.OK},
		{modelForm(0, steps(100, 1, 1)), nil, nil, api.ErrForm}, {modelForm(3, steps(100, 1, 1)), nil, nil, api.ErrForm},
		// As many elements as can be, and one more.
		{modelForm(0, many(mostList, 3)), many(mostList, 3), nil, api.OK}, {modelForm(1, far), far, nil, api.OK}, {modelForm(2, steps(mostList, 1, 1)), steps(mostList, 1, 1), nil, api.OK}, {modelForm(3, steps(mostList, 5, 1)), steps(mostList, 5, 1), nil, api.OK},
		{packedRuns(1, []int{7, -1000000}, []int{mostList - 1, 1}), far, nil, api.OK}, {packedRuns(1, []int{7, -1000000}, []int{mostList, 1}), nil, nil, api.ErrForm}, {packedRuns(1, []int{7, -1000000}, []int{mostList - 1, 2}), nil, nil, api.ErrForm},
		{packedRuns(1, []int{7, -1000000}, []int{greatest, 1}), nil, nil, api.ErrForm}, {packedRuns(1, []int{7, -1000000, 7}, []int{greatest, greatest, 2}), nil, nil, api.ErrForm}, {packedRuns(1, []int{7, -1000000}, []int{least, 1}), nil, nil, api.ErrForm},
		{packedRuns(3, []int{5, 1}, []int{1, mostList - 1}), steps(mostList, 5, 1), nil, api.OK}, {packedRuns(3, []int{5, 1}, []int{1, mostList}), nil, nil, api.ErrForm}, {packedRuns(3, []int{5, 1}, []int{1, greatest}), nil, nil, api.ErrForm}, {packedRuns(3, []int{5, 5}, []int{1, 99}), nil, nil, api.ErrForm},
	} {
		l, rest, e := runs.Decode(c.b)
		if !slices.Equal(l, c.l) || !bytes.Equal(rest, c.rest) || e != c.e {
			t.Errorf("Decode(%v): %v, %v, %d instead of %v, %v, %d", some(c.b), some(l), rest, e, some(c.l), c.rest, c.e)
		}
		if e != api.OK && (l != nil || rest != nil) {
			t.Errorf("Decode(%v): %v, %v with the error %d", some(c.b), some(l), rest, e)
		}
		checkDecode(t, c.b)
	}
}

func TestDecodeOfShortSequences(t *testing.T) {
	check := func(b []byte) { checkDecode(t, b) }
	var all []byte
	for x := range 256 {
		all = append(all, byte(x))
	}
	eachLonger(nil, all, 2, check)
	eachLonger(nil, []byte{0, 1, 2, 3, 4, 7, 64, 128}, 6, check)
	for kind := range byte(5) {
		eachLonger([]byte{kind, 2, 14}, []byte{0, 1, 2, 3, 12, 65, 255}, 5, check)
		eachLonger([]byte{kind, 1, 14, 0, 1}, []byte{0, 1, 2, 40, 128}, 5, check)
		eachLonger([]byte{kind, 2, 14, 11, 0, 7, 2}, []byte{0, 1, 2, 3, 4, 12}, 5, check)
	}
}

// Runs of all kinds, proper or not, and in both forms that have them.
func TestDecodeOfAnyRuns(t *testing.T) {
	accepted := 0
	check := func(kind byte, values, lengths []int) {
		b := append(packedRuns(kind, values, lengths), 9)
		checkDecode(t, b)
		if _, _, e := runs.Decode(b); e == api.OK {
			accepted++
		}
	}
	for kind := byte(1); kind <= 3; kind += 2 {
		eachLonger(nil, []int{7, 1 << 40, least}, 3, func(values []int) {
			eachLonger(nil, []int{-1, 0, 1, 30, mostList - 30, mostList, greatest}, 3, func(lengths []int) {
				check(kind, values, lengths)
			})
		})
	}
	r := newRand()
	for range 2000 {
		n := r.IntN(8)
		lengths := noise(r, n)
		for i := range lengths {
			lengths[i] = 1 + lengths[i]&(1<<r.IntN(13)-1)
		}
		check(1, noise(r, n), lengths)
		check(3, noise(r, n), lengths)
	}
	if accepted < 1000 {
		t.Errorf("only %d forms were accepted", accepted)
	}
}

func TestDecodeOfChangedEncodings(t *testing.T) {
	r := newRand()
	change := func(b []byte, i int) {
		checkDecode(t, b[:i])
		flipped := slices.Clone(b)
		flipped[i] ^= 1 << r.IntN(8)
		checkDecode(t, flipped)
		flipped[i] = byte(r.IntN(256))
		checkDecode(t, flipped)
		checkDecode(t, slices.Delete(slices.Clone(b), i, i+1))
		checkDecode(t, slices.Insert(slices.Clone(b), i, byte(r.IntN(256))))
	}
	eachList(func(l []int) {
		if len(l) > 100 && r.IntN(40) > 0 {
			return
		}
		b := append(modelEncode(l), byte(r.IntN(256)))
		checkDecode(t, b)
		for i := range min(len(b), 4) {
			change(b, i)
		}
		for range 4 {
			change(b, r.IntN(len(b)))
		}
	})
}

// P1: any bytes.
func TestDecodeOfAnyBytes(t *testing.T) {
	r := newRand()
	for range 40000 {
		b := make([]byte, r.IntN(30))
		for i := range b {
			b[i] = byte(r.Uint64() >> r.IntN(64))
		}
		checkDecode(t, b)
		if len(b) > 0 {
			b[0] %= 4
			checkDecode(t, b)
		}
	}
	for kind := range byte(6) {
		for _, x := range []byte{0, 1, 128, 255} {
			checkDecode(t, append([]byte{kind}, bytes.Repeat([]byte{x}, 1<<20)...))
		}
	}
}

// D5: what a call must not change is what its arguments refer to, the room behind them included.
func TestArgumentsStay(t *testing.T) {
	eachList(func(l []int) {
		if len(l) > 500 {
			return
		}
		room := append(slices.Clone(l), many(9, 77)...)
		before := slices.Clone(room)
		l = room[:len(l)]
		values, lengths := runs.Runs(l)
		for _, result := range [][]int{values, lengths, runs.Differences(l), runs.Sums(l)} {
			spoil(result)
		}
		runs.Kind(l)
		b, _ := runs.Encode(l)
		if !slices.Equal(room, before) {
			t.Errorf("a function changed %v to %v", before, room)
		}
		form := slices.Concat(b, []byte{1, 2, 3}, bytes.Repeat([]byte{77}, 20))
		whole := slices.Clone(form)
		got, rest, _ := runs.Decode(form[:len(b)+3])
		spoil(got)
		_ = append(rest, 5)
		if !bytes.Equal(form, whole) {
			t.Errorf("Decode changed %v to %v", whole, form)
		}
		checkExpandChangesNothing(t, l)
	})
}

func checkExpandChangesNothing(t *testing.T, l []int) {
	t.Helper()
	values, lengths := modelRuns(l)
	n := len(values)
	values, lengths = append(values, 77, 77), append(lengths, 77, 77)
	valuesBefore, lengthsBefore := slices.Clone(values), slices.Clone(lengths)
	got, _ := runs.Expand(values[:n], lengths[:n])
	spoil(got)
	if !slices.Equal(values, valuesBefore) || !slices.Equal(lengths, lengthsBefore) {
		t.Errorf("Expand changed %v, %v to %v, %v", valuesBefore, lengthsBefore, values, lengths)
	}
}

// spoil changes a result, and writes behind it if there is room.
func spoil(l []int) {
	for i := range l {
		l[i]++
	}
	_ = append(l, 5)
}

// The two lists of one result share no memory.
func TestBothListsOfRunsAreApart(t *testing.T) {
	eachList(func(l []int) {
		values, lengths := runs.Runs(l)
		wantLengths := slices.Clone(lengths)
		spoil(values)
		if !slices.Equal(lengths, wantLengths) {
			t.Errorf("Runs(%v): changing the values changes the lengths", some(l))
		}
		wantValues := slices.Clone(values)
		spoil(lengths)
		if !slices.Equal(values, wantValues) {
			t.Errorf("Runs(%v): changing the lengths changes the values", some(l))
		}
	})
}

// Results are those of the arguments, whatever was called before.
func TestNothingIsKept(t *testing.T) {
	l := []int{7, 7, 7, 2}
	first, e := runs.Encode(l)
	if e != api.OK {
		t.Fatalf("Encode(%v): %d", l, e)
	}
	kept := slices.Clone(first)
	first[0]++
	l[0], l[1], l[2], l[3] = 9, 9, 9, 9
	again, e := runs.Encode([]int{7, 7, 7, 2})
	if !bytes.Equal(again, kept) || e != api.OK {
		t.Errorf("Encode: %v, %d instead of %v", again, e, kept)
	}
	got, _, _ := runs.Decode(again)
	spoil(got)
	if second, _, e := runs.Decode(again); !slices.Equal(second, []int{7, 7, 7, 2}) || e != api.OK {
		t.Errorf("Decode: %v, %d", second, e)
	}
}
