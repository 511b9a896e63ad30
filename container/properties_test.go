package container_test

import (
	"bytes"
	"slices"
	"testing"

	"chapman/api"
	"chapman/container"
)

func form(t *testing.T, f api.File) []byte {
	t.Helper()
	b, e := container.Seal(f)
	if e != api.OK {
		t.Fatalf("Seal of the kind %d, the id %v and %d bytes: %d", f.Kind, f.Id, len(f.Data), e)
	}
	return b
}

// P9.2: the file comes back.
func TestFilesComeBack(t *testing.T) {
	eachFile(func(f api.File) {
		if got, e := container.Open(form(t, f)); !same(got, f) || e != api.OK {
			t.Errorf("Open of the sealed %d %v with %d bytes: %v, %d", f.Kind, f.Id, len(f.Data), got, e)
		}
	})
}

// P9.2: what is accepted is the sealed form of the file that is returned.
func TestAcceptedBytesAreSealedForms(t *testing.T) {
	accepted, r := 0, newRand()
	check := func(b []byte) {
		f, e := container.Open(b)
		if e != api.OK {
			return
		}
		accepted++
		if again := form(t, f); !bytes.Equal(again, b) {
			t.Errorf("Open(%v): %v, whose sealed form is %v", short(b), f, short(again))
		}
	}
	withSum := func(b []byte) { check(sealed(b)) }
	eachLonger([]byte("CHM\x01"), []byte{0, 1, 2, 3, 4, 128, 129}, 6, withSum)
	eachLonger([]byte("CHM\x09\x02\x00"), []byte{0, 1, 2, 3, 4, 8, 128}, 5, withSum)
	eachSmallFile(func(f api.File) {
		b := form(t, f)
		check(b)
		for range 10 {
			changes(r, b, check)
			changes(r, b[:len(b)-8], withSum)
		}
	})
	if accepted < 10000 {
		t.Errorf("only %d sequences were accepted", accepted)
	}
}

// P9.2: no two files have the same sealed form.
func TestFormsOfDifferentFilesDiffer(t *testing.T) {
	forms := map[string]api.File{}
	check := func(f api.File) {
		b := string(form(t, f))
		if other, ok := forms[b]; ok && !same(f, other) {
			t.Errorf("%v and %v have the same sealed form", f, other)
		}
		forms[b] = copyOf(f)
	}
	eachLonger(nil, list(-1, 0, 1, 2, 10, 128), 3, func(id []int) {
		eachLonger(nil, []byte{0, 1, 2, 10, 128}, 2, func(data []byte) {
			check(file(1, id, data...))
			check(file(2, id, data...))
		})
	})
	eachSmallFile(check)
}

// P9.3: every proper beginning is ErrShort.
func TestBeginnings(t *testing.T) {
	eachFile(func(f api.File) {
		b := form(t, f)
		step := 1 + len(b)/500
		for n := 0; n < len(b); n += step {
			checkBeginning(t, b, n)
		}
		for n := range min(len(b), 400) {
			checkBeginning(t, b, n)
		}
		for n := max(0, len(b)-20); n < len(b); n++ {
			checkBeginning(t, b, n)
		}
	})
}

func checkBeginning(t *testing.T, b []byte, n int) {
	t.Helper()
	if f, e := container.Open(b[:n]); !isZero(f) || e != api.ErrShort {
		t.Fatalf("Open of %d of %d bytes %v: %v, %d", n, len(b), short(b), f, e)
	}
	if l, rest := container.Split(b[:n]); len(l) != 0 || !bytes.Equal(rest, b[:n]) {
		t.Fatalf("Split of %d of %d bytes %v: %v, and %d bytes", n, len(b), short(b), l, len(rest))
	}
}

// P9.4: a form with one other byte is not accepted.
func TestDamage(t *testing.T) {
	r := newRand()
	check := func(b []byte, at int, x byte) {
		was := b[at]
		if b[at] = x; x == was {
			return
		}
		f, e := container.Open(b)
		if !isZero(f) || e != api.ErrRot && e != api.ErrShort {
			t.Errorf("Open of %d bytes %v, with %d at %d instead of %d: %v, %d", len(b), short(b), x, at, was, f, e)
		}
		// A shorter sealed form, with the bytes of this one, has a checksum that fits by chance alone: it is not promised that there is none.
		if l, _ := container.Split(b); len(l) != 0 {
			t.Errorf("Split of %d bytes %v, with %d at %d instead of %d: %v", len(b), short(b), x, at, was, l)
		}
		b[at] = was
	}
	few := 0
	eachSmallFile(func(f api.File) {
		b := form(t, f)
		if few++; few%10 == 0 && len(b) < 80 {
			for at := range b {
				for x := range 256 {
					check(b, at, byte(x))
				}
			}
		}
		for at := range b {
			check(b, at, b[at]^1<<r.IntN(8))
			check(b, at, byte(r.IntN(256)))
		}
	})
	eachFile(func(f api.File) {
		b := form(t, f)
		for _, at := range []int{3, 4, 5, 6, 7, r.IntN(len(b)), r.IntN(len(b)), len(b) - 9, len(b) - 8, len(b) - 1} {
			check(b, at, b[at]^1<<r.IntN(8))
		}
	})
}

// P9.4: nor is one that is followed by further bytes.
func TestFurtherBytes(t *testing.T) {
	r := newRand()
	eachFile(func(f api.File) {
		b := form(t, f)
		for _, more := range [][]byte{{0}, {1}, {67}, {255}, []byte("CHM"), make([]byte, 8), b[:len(b)-1], b, someData(r, 1+r.IntN(30))} {
			if got, e := container.Open(slices.Concat(b, more)); !isZero(got) || e != api.ErrRot {
				t.Fatalf("Open of %d bytes %v, and %v: %v, %d", len(b), short(b), short(more), got, e)
			}
		}
	})
}

// P9.5: a sequence is split into its files; if it is cut off anywhere, into those that are whole.
func TestSequences(t *testing.T) {
	r := newRand()
	for range 300 {
		var files []api.File
		var ends []int
		var b []byte
		for range r.IntN(7) {
			f := someFile(r, 40)
			files, b = append(files, f), append(b, form(t, f)...)
			ends = append(ends, len(b))
		}
		for n := range len(b) + 1 {
			whole, end := 0, 0
			for whole < len(ends) && ends[whole] <= n {
				whole, end = whole+1, ends[whole]
			}
			l, rest := container.Split(b[:n])
			if !slices.EqualFunc(l, files[:whole], same) || !bytes.Equal(rest, b[end:n]) {
				t.Fatalf("Split of the first %d of %d bytes of %v: %v, %v", n, len(b), files, l, short(rest))
			}
		}
	}
}

// P9.5: the files ahead of a byte that is another one come back, and the bytes behind them begin with no sealed form.
func TestSequencesWithDamage(t *testing.T) {
	r := newRand()
	for range 3000 {
		var files []api.File
		var starts []int
		var b []byte
		for range 1 + r.IntN(5) {
			f := someFile(r, 60)
			starts = append(starts, len(b))
			files, b = append(files, f), append(b, form(t, f)...)
		}
		at := r.IntN(len(b))
		k, found := slices.BinarySearch(starts, at)
		if !found {
			k--
		}
		b[at] ^= 1 << r.IntN(8)
		l, rest := container.Split(b)
		if !slices.EqualFunc(l, files[:k], same) || !bytes.Equal(rest, b[starts[k]:]) {
			t.Fatalf("Split of %d bytes of %v with damage at %d: %v, and %v", len(b), files, at, l, short(rest))
		}
		if none, _ := container.Split(rest); len(none) != 0 {
			t.Fatalf("%v, behind the files, begins with %v", short(rest), none)
		}
	}
}

// P9.5: files of any size, one after the other.
func TestLongFilesInSequence(t *testing.T) {
	var files []api.File
	var b []byte
	eachFile(func(f api.File) {
		files, b = append(files, f), append(b, form(t, f)...)
	})
	l, rest := container.Split(append(b, "CHM"...))
	if !slices.EqualFunc(l, files, same) || string(rest) != "CHM" {
		t.Errorf("%d files of %d, and %v", len(l), len(files), short(rest))
	}
}

// P9.6: a total order of identities.
func TestOrder(t *testing.T) {
	var l []api.File
	for kind := range 4 {
		eachLonger(nil, list(-1, 0, 1), 2, func(id []int) { l = append(l, file(kind, id)) })
	}
	r := newRand()
	for range 30 {
		l = append(l, someFile(r, 5))
	}
	for _, f := range l {
		for _, g := range l {
			c := container.Cmp(f, g)
			if c < -1 || c > 1 || container.Cmp(g, f) != -c {
				t.Errorf("Cmp of %v and %v: %d, and %d the other way around", f, g, c, container.Cmp(g, f))
			}
			if equal := f.Kind == g.Kind && slices.Equal(f.Id, g.Id); equal != (c == 0) {
				t.Errorf("Cmp of %v and %v: %d", f, g, c)
			}
			for _, h := range l {
				if c <= 0 && container.Cmp(g, h) <= 0 && container.Cmp(f, h) > 0 {
					t.Errorf("%v, %v and %v are in a circle", f, g, h)
				}
			}
		}
	}
}

// P9.6: the contents do not matter.
func TestContentsDoNotMatter(t *testing.T) {
	r := newRand()
	eachFile(func(f api.File) {
		g := someFile(r, 30)
		if r.IntN(2) == 0 {
			g.Kind = f.Kind
		}
		want := container.Cmp(f, g)
		for _, data := range [][]byte{nil, {0}, {255}, g.Data, f.Data, someData(r, 20)} {
			h := api.File{Kind: f.Kind, Id: f.Id, Data: data}
			if c := container.Cmp(h, f); c != 0 {
				t.Errorf("Cmp of two files with the identity %d %v: %d", f.Kind, f.Id, c)
			}
			if c := container.Cmp(h, g); c != want {
				t.Errorf("Cmp of %d %v and %d %v: %d with other contents, and %d", h.Kind, h.Id, g.Kind, g.Id, c, want)
			}
		}
	})
}
