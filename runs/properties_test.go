package runs_test

import (
	"bytes"
	"slices"
	"testing"

	"chapman/api"
	"chapman/bitpack"
	"chapman/runs"
)

// P4.2: the list comes back from its runs.
func TestRunsExpandToTheList(t *testing.T) {
	eachList(func(l []int) {
		values, lengths := runs.Runs(l)
		if got, e := runs.Expand(values, lengths); !slices.Equal(got, l) || e != api.OK {
			t.Errorf("Expand of the runs of %v: %v, %d", some(l), some(got), e)
		}
	})
}

// P4.2: the runs come back from the list.
func TestExpandedRunsComeBack(t *testing.T) {
	r := newRand()
	expanded := 0
	check := func(values, lengths []int) {
		l, e := runs.Expand(values, lengths)
		if e != api.OK {
			return
		}
		expanded++
		gotValues, gotLengths := runs.Runs(l)
		if !slices.Equal(gotValues, values) || !slices.Equal(gotLengths, lengths) {
			t.Errorf("Runs of the expanded %v, %v: %v, %v", some(values), some(lengths), some(gotValues), some(gotLengths))
		}
	}
	eachLonger(nil, []int{least, 0, 1}, 4, func(values []int) {
		eachLonger(nil, []int{0, 1, 2, 1000}, 4, func(lengths []int) { check(values, lengths) })
	})
	for range 2000 {
		n := r.IntN(40)
		lengths := make([]int, n)
		for i := range lengths {
			lengths[i] = 1 + r.IntN(110)
		}
		check(noise(r, n), lengths)
	}
	if expanded < 2000 {
		t.Errorf("only %d lists were expanded", expanded)
	}
}

// P4.2: the lengths are at least 1, their sum is the length of the list, and neighbouring values are different.
func TestRunsAreLongest(t *testing.T) {
	check := func(l []int) {
		values, lengths := runs.Runs(l)
		if len(values) != len(lengths) {
			t.Fatalf("Runs(%v): %d values and %d lengths", some(l), len(values), len(lengths))
		}
		sum := 0
		for i, n := range lengths {
			if n < 1 {
				t.Errorf("Runs(%v): the length %d", some(l), n)
			}
			if i > 0 && values[i] == values[i-1] {
				t.Errorf("Runs(%v): neighbours with the value %d", some(l), values[i])
			}
			sum += n
		}
		if sum != len(l) {
			t.Errorf("Runs of %d elements: %d elements in all runs", len(l), sum)
		}
	}
	eachList(check)
	check(withRuns(newRand(), 100000, 1000))
}

// P4.2: beyond 4096 elements the list does not come back.
func TestRunsOfLongLists(t *testing.T) {
	for _, l := range [][]int{many(mostList+1, 0), steps(mostList+1, 0, 1), append(many(mostList, 5), 6)} {
		values, lengths := runs.Runs(l)
		if got, e := runs.Expand(values, lengths); got != nil || e != api.ErrBig {
			t.Errorf("Expand of the runs of %d elements: %d elements, %d", len(l), len(got), e)
		}
	}
}

// P4.3: each of the two inverts the other one.
func TestSumsAndDifferences(t *testing.T) {
	check := func(l []int) {
		if got := runs.Sums(runs.Differences(l)); !slices.Equal(got, l) {
			t.Errorf("Sums of the differences of %v: %v", some(l), some(got))
		}
		if got := runs.Differences(runs.Sums(l)); !slices.Equal(got, l) {
			t.Errorf("Differences of the sums of %v: %v", some(l), some(got))
		}
	}
	eachList(check)
	check(noise(newRand(), 100000))
}

// P4.3: with the same number added to all elements, only the first difference changes.
func TestTranslation(t *testing.T) {
	r := newRand()
	eachList(func(l []int) {
		if len(l) == 0 {
			return
		}
		want := runs.Differences(l)
		for _, added := range []int{1, -1, greatest, least, someNumber(r)} {
			moved := slices.Clone(l)
			for i := range moved {
				moved[i] += added
			}
			got := runs.Differences(moved)
			if got[0] != want[0]+added || !slices.Equal(got[1:], want[1:]) {
				t.Errorf("Differences of %v, %d more: %v instead of %v", some(l), added, some(got), some(want))
			}
		}
	})
}

// P4.4: the list comes back, and so does what follows.
func TestListsComeBack(t *testing.T) {
	r := newRand()
	eachList(func(l []int) {
		b := encoded(t, l)
		for _, rest := range [][]byte{nil, {0}, {255}, {128, 128}, b[:min(len(b), 20)], {byte(r.IntN(256)), byte(r.IntN(256))}} {
			got, behind, e := runs.Decode(slices.Concat(b, rest))
			if !slices.Equal(got, l) || !bytes.Equal(behind, rest) || e != api.OK {
				t.Fatalf("Decode of the encoded %v, with %v behind: %v, %v, %d", some(l), rest, some(got), some(behind), e)
			}
		}
	})
}

// P4.4: several lists behind one another come back in order.
func TestListsBehindOneAnother(t *testing.T) {
	r := newRand()
	for range 500 {
		var ls [][]int
		var b []byte
		for range r.IntN(6) {
			l := someList(r, r.IntN(40))
			ls = append(ls, l)
			b = append(b, encoded(t, l)...)
		}
		for i, l := range ls {
			got, rest, e := runs.Decode(b)
			if !slices.Equal(got, l) || e != api.OK {
				t.Fatalf("list %d of %v: %v, %d", i, ls, got, e)
			}
			b = rest
		}
		if len(b) != 0 {
			t.Fatalf("%v behind the last one of %v", b, ls)
		}
	}
}

// P4.4: what is accepted is the encoding of the list that is returned, and the rest.
func TestAcceptedBytesAreCanonical(t *testing.T) {
	accepted := 0
	check := func(b []byte) {
		l, rest, e := runs.Decode(b)
		if e != api.OK {
			return
		}
		accepted++
		if again := encoded(t, l); !bytes.Equal(slices.Concat(again, rest), b) {
			t.Errorf("Decode(%v): %v, which is encoded by %v, and %v", some(b), some(l), some(again), some(rest))
		}
	}
	for kind := range byte(4) {
		eachLonger([]byte{kind}, []byte{0, 1, 2, 3, 7, 12}, 6, check)
		eachLonger([]byte{kind, 2, 14, 11, 0, 7, 2}, []byte{0, 1, 2, 3, 4, 12}, 5, check)
	}
	r := newRand()
	eachList(func(l []int) {
		if len(l) > 500 {
			return
		}
		b := append(modelEncode(l), 3)
		check(b)
		for range 10 {
			changed := slices.Clone(b)
			changed[r.IntN(len(b))] ^= 1 << r.IntN(8)
			check(changed)
		}
	})
	if accepted < 30000 {
		t.Errorf("only %d sequences were accepted", accepted)
	}
}

// P4.4: of the four forms of a list, the one of its kind alone is accepted.
func TestOtherFormsAreRefused(t *testing.T) {
	eachList(func(l []int) {
		kind := modelKind(l)
		for number := range 4 {
			b := modelForm(number, l)
			got, rest, e := runs.Decode(b)
			if number == kind && (!slices.Equal(got, l) || len(rest) != 0 || e != api.OK) {
				t.Errorf("Decode of the form %d of %v: %v, %v, %d", number, some(l), some(got), rest, e)
			}
			if number != kind && (got != nil || rest != nil || e != api.ErrForm) {
				t.Errorf("Decode of the form %d of %v, whose kind is %d: %v, %v, %d", number, some(l), kind, some(got), rest, e)
			}
		}
	})
}

// P4.4: no two lists have the same encoding.
func TestEncodingsOfDifferentListsDiffer(t *testing.T) {
	encodings := map[string][]int{}
	eachLonger(nil, []int{least, -129, -2, -1, 0, 1, 2, 255, greatest}, 4, func(l []int) {
		b := string(encoded(t, l))
		if other, ok := encodings[b]; ok {
			t.Errorf("%v and %v have the same encoding", l, other)
		}
		encodings[b] = slices.Clone(l)
	})
}

// P4.5: no other form has fewer bytes than the one of the kind, which is the encoding; and none with a lesser number has as few.
func TestNoOtherFormIsShorter(t *testing.T) {
	eachList(func(l []int) {
		b := encoded(t, l)
		kind := runs.Kind(l)
		if int(b[0]) != kind {
			t.Fatalf("Encode(%v): the kind %d instead of %d", some(l), b[0], kind)
		}
		for number := range 4 {
			size := len(modelForm(number, l))
			if size < len(b) || size == len(b) && number < kind {
				t.Errorf("the form %d of %v has %d bytes with its number, that of the kind %d has %d", number, some(l), size, kind, len(b))
			}
		}
	})
}

// P4.5: what Kind says of a list of more than 4096 elements is least too.
func TestNoOtherFormOfLongListsIsShorter(t *testing.T) {
	r := newRand()
	for range 60 {
		l := someList(r, mostList+1+r.IntN(20000))
		kind, sizes := runs.Kind(l), modelSizes(l)
		for number, size := range sizes {
			if size < sizes[kind] || size == sizes[kind] && number < kind {
				t.Errorf("Kind of %d elements %v: %d, with the sizes %v", len(l), some(l), kind, sizes)
			}
		}
	}
}

// P4.5: equal elements, and equal differences, have an encoding of at most 40 bytes.
func TestEvenListsAreShort(t *testing.T) {
	r := newRand()
	check := func(n, first, step int) {
		l := steps(n, first, step)
		if b := encoded(t, l); len(b) > 40 {
			t.Errorf("Encode of %d elements from %d on, with the difference %d: %d bytes", n, first, step, len(b))
		}
	}
	counts := []int{0, 1, 2, 3, 4, 7, 8, 9, 127, 128, 129, 2047, mostList - 1, mostList}
	ends := []int{least, least + 1, -1, 0, 1, greatest - 1, greatest}
	for _, n := range counts {
		for _, first := range ends {
			for _, step := range ends {
				check(n, first, step)
			}
		}
	}
	for n := range 200 {
		check(n, least, 0)
		check(n, least, greatest)
		check(n, someNumber(r), 0)
		check(n, someNumber(r), someNumber(r))
	}
	for range 1000 {
		check(r.IntN(mostList+1), someNumber(r), 0)
		check(r.IntN(mostList+1), someNumber(r), someNumber(r))
	}
}

// P4.6: every proper beginning is ErrShort.
func TestBeginnings(t *testing.T) {
	eachList(func(l []int) {
		b := encoded(t, l)
		step := 1 + len(b)/100
		for n := 0; n < len(b); n += step {
			checkBeginning(t, l, b[:n])
		}
		for n := max(0, len(b)-10); n < len(b); n++ {
			checkBeginning(t, l, b[:n])
		}
		if kind := int(b[0]); kind == 1 || kind == 3 {
			first, e := bitpack.Pack(modelParts(l)[kind][0])
			if e != api.OK {
				t.Fatalf("Pack: %d", e)
			}
			checkBeginning(t, l, b[:len(first)])
			checkBeginning(t, l, b[:1+len(first)])
		}
	})
}

func checkBeginning(t *testing.T, l []int, b []byte) {
	t.Helper()
	if got, rest, e := runs.Decode(b); got != nil || rest != nil || e != api.ErrShort {
		t.Errorf("Decode of %d bytes of %d encoded elements: %v, %v, %d", len(b), len(l), some(got), some(rest), e)
	}
}
