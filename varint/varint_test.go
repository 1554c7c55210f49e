package varint_test

import (
	"bytes"
	"math"
	"slices"
	"testing"

	"portolan/api"
	"portolan/varint"
)

// plain has numbers beside their bytes, the least and the greatest of each size among them.
var plain = []struct {
	n int
	b []byte
}{
	{0, []byte{0}},
	{1, []byte{1}},
	{100, []byte{100}},
	{127, []byte{127}},
	{128, []byte{128, 1}},
	{300, []byte{0xac, 2}},
	{1<<14 - 1, []byte{255, 127}},
	{1 << 14, []byte{128, 128, 1}},
	{1<<21 - 1, []byte{255, 255, 127}},
	{1 << 21, []byte{128, 128, 128, 1}},
	{1<<28 - 1, []byte{255, 255, 255, 127}},
	{1 << 28, []byte{128, 128, 128, 128, 1}},
	{1 << 31, []byte{128, 128, 128, 128, 8}},
	{1 << 32, []byte{128, 128, 128, 128, 16}},
	{1<<35 - 1, []byte{255, 255, 255, 255, 127}},
	{1 << 35, []byte{128, 128, 128, 128, 128, 1}},
	{1<<42 - 1, []byte{255, 255, 255, 255, 255, 127}},
	{1 << 42, []byte{128, 128, 128, 128, 128, 128, 1}},
	{1<<49 - 1, []byte{255, 255, 255, 255, 255, 255, 127}},
	{1 << 49, []byte{128, 128, 128, 128, 128, 128, 128, 1}},
	{1<<56 - 1, []byte{255, 255, 255, 255, 255, 255, 255, 127}},
	{1 << 56, []byte{128, 128, 128, 128, 128, 128, 128, 128, 1}},
	{1 << 62, []byte{128, 128, 128, 128, 128, 128, 128, 128, 64}},
	{math.MaxInt - 1, []byte{254, 255, 255, 255, 255, 255, 255, 255, 127}},
	{math.MaxInt, []byte{255, 255, 255, 255, 255, 255, 255, 255, 127}},
}

// signed has signed numbers beside their bytes.
var signed = []struct {
	n int
	b []byte
}{
	{0, []byte{0}},
	{-1, []byte{1}},
	{1, []byte{2}},
	{-2, []byte{3}},
	{2, []byte{4}},
	{63, []byte{126}},
	{-64, []byte{127}},
	{64, []byte{128, 1}},
	{-65, []byte{129, 1}},
	{-150, []byte{0xab, 2}},
	{150, []byte{0xac, 2}},
	{1 << 31, []byte{128, 128, 128, 128, 16}},
	{-1 << 31, []byte{255, 255, 255, 255, 15}},
	{1<<62 - 1, []byte{254, 255, 255, 255, 255, 255, 255, 255, 127}},
	{-1 << 62, []byte{255, 255, 255, 255, 255, 255, 255, 255, 127}},
	{1 << 62, []byte{128, 128, 128, 128, 128, 128, 128, 128, 128, 1}},
	{-1<<62 - 1, []byte{129, 128, 128, 128, 128, 128, 128, 128, 128, 1}},
	{math.MaxInt, []byte{254, 255, 255, 255, 255, 255, 255, 255, 255, 1}},
	{math.MinInt + 1, []byte{253, 255, 255, 255, 255, 255, 255, 255, 255, 1}},
	{math.MinInt, []byte{255, 255, 255, 255, 255, 255, 255, 255, 255, 1}},
}

// below has numbers that have no bytes.
var below = []int{-1, -2, -128, -300, math.MinInt + 1, math.MinInt}

// heads has bytes that numbers are put behind.
var heads = [][]byte{nil, {}, {9}, {128}, {255, 0, 7}}

// P1.1: of Put, Get, and Size.
func TestPlain(t *testing.T) {
	for _, x := range plain {
		for _, h := range heads {
			if got := varint.Put(h, x.n); !bytes.Equal(got, slices.Concat(h, x.b)) {
				t.Errorf("Put(%v, %d) = %v", h, x.n, got)
			}
		}
		if got := varint.Size(x.n); got != len(x.b) {
			t.Errorf("Size(%d) = %d", x.n, got)
		}
		for _, tail := range heads {
			if n, size, e := varint.Get(slices.Concat(x.b, tail)); n != x.n || size != len(x.b) || e != api.OK {
				t.Errorf("Get(%v, with %v behind) = %d, %d, %d", x.b, tail, n, size, e)
			}
		}
	}
}

// P1.1: of Put and Size, of numbers that have no bytes.
func TestBelow(t *testing.T) {
	for _, n := range below {
		for _, h := range heads {
			if got := varint.Put(h, n); !bytes.Equal(got, h) {
				t.Errorf("Put(%v, %d) = %v", h, n, got)
			}
		}
		if got := varint.Size(n); got != 0 {
			t.Errorf("Size(%d) = %d", n, got)
		}
	}
}

// P1.1: of PutSigned and GetSigned.
func TestSigned(t *testing.T) {
	for _, x := range signed {
		for _, h := range heads {
			if got := varint.PutSigned(h, x.n); !bytes.Equal(got, slices.Concat(h, x.b)) {
				t.Errorf("PutSigned(%v, %d) = %v", h, x.n, got)
			}
			if n, size, e := varint.GetSigned(slices.Concat(x.b, h)); n != x.n || size != len(x.b) || e != api.OK {
				t.Errorf("GetSigned(%v, with %v behind) = %d, %d, %d", x.b, h, n, size, e)
			}
		}
	}
}

// run is so many bytes of one value, and others behind them.
func run(x byte, count int, tail ...byte) []byte {
	return append(bytes.Repeat([]byte{x}, count), tail...)
}

// P1.1: of Get and GetSigned, of wrong bytes.
func TestRefused(t *testing.T) {
	for _, x := range []struct {
		b             []byte
		plain, signed api.Errno
	}{
		{nil, api.ErrShort, api.ErrShort},
		{[]byte{}, api.ErrShort, api.ErrShort},
		{run(128, 1), api.ErrShort, api.ErrShort},
		{run(255, 3), api.ErrShort, api.ErrShort},
		{run(128, 8), api.ErrShort, api.ErrShort},
		{run(255, 8), api.ErrShort, api.ErrShort},
		{run(128, 9), api.ErrLong, api.ErrShort},
		{run(255, 9), api.ErrLong, api.ErrShort},
		{run(128, 10), api.ErrLong, api.ErrLong},
		{run(129, 10), api.ErrLong, api.ErrLong},
		{run(255, 10), api.ErrLong, api.ErrLong},
		{run(128, 11), api.ErrLong, api.ErrLong},
		{run(128, 10, 0), api.ErrLong, api.ErrLong},
		{run(128, 10, 1), api.ErrLong, api.ErrLong},
		{run(255, 300), api.ErrLong, api.ErrLong},
		{run(128, 1, 0), api.ErrSlack, api.ErrSlack},
		{run(255, 1, 0), api.ErrSlack, api.ErrSlack},
		{run(128, 1, 0, 1), api.ErrSlack, api.ErrSlack},
		{run(128, 2, 0), api.ErrSlack, api.ErrSlack},
		{run(255, 7, 0), api.ErrSlack, api.ErrSlack},
		{run(128, 8, 0), api.ErrSlack, api.ErrSlack},
		{run(255, 8, 0, 128), api.ErrSlack, api.ErrSlack},
		{run(128, 9, 0), api.ErrLong, api.ErrSlack},
		{run(255, 9, 0), api.ErrLong, api.ErrSlack},
		{run(128, 9, 2), api.ErrLong, api.ErrLong},
		{run(255, 9, 3), api.ErrLong, api.ErrLong},
		{run(255, 9, 127), api.ErrLong, api.ErrLong},
		{run(128, 9, 1), api.ErrLong, api.OK},
		{run(128, 9, 1, 128), api.ErrLong, api.OK},
		{run(255, 8, 127), api.OK, api.OK},
	} {
		if n, size, e := varint.Get(x.b); e != x.plain || e != api.OK && (n != 0 || size != 0) {
			t.Errorf("Get(%v) = %d, %d, %d", x.b, n, size, e)
		}
		if n, size, e := varint.GetSigned(x.b); e != x.signed || e != api.OK && (n != 0 || size != 0) {
			t.Errorf("GetSigned(%v) = %d, %d, %d", x.b, n, size, e)
		}
	}
}

// P1.1: of List and Split.
func TestLists(t *testing.T) {
	for _, x := range []struct {
		l    []int
		b    []byte
		back []int
	}{
		{nil, nil, nil},
		{[]int{0}, []byte{0}, []int{0}},
		{[]int{0, 0, 0}, []byte{0, 0, 0}, []int{0, 0, 0}},
		{[]int{1, 300, 2}, []byte{1, 0xac, 2, 2}, []int{1, 300, 2}},
		{[]int{-1}, nil, nil},
		{[]int{-1, 5, math.MinInt, 128, -300}, []byte{5, 128, 1}, []int{5, 128}},
		{
			[]int{math.MaxInt, 1 << 56, 0},
			slices.Concat(run(255, 8, 127), run(128, 8, 1), []byte{0}),
			[]int{math.MaxInt, 1 << 56, 0},
		},
	} {
		if got := varint.List(x.l...); !bytes.Equal(got, x.b) {
			t.Errorf("List(%v) = %v", x.l, got)
		}
		if got, e := varint.Split(x.b); !slices.Equal(got, x.back) || e != api.OK {
			t.Errorf("Split(%v) = %v, %d", x.b, got, e)
		}
	}
}

// P1.1: of Split, of wrong bytes.
func TestSplitRefused(t *testing.T) {
	for _, x := range []struct {
		b []byte
		e api.Errno
	}{
		{run(128, 1), api.ErrShort},
		{[]byte{1, 0xac, 2, 128}, api.ErrShort},
		{[]byte{1, 128, 0, 1}, api.ErrSlack},
		{[]byte{128, 0, 128}, api.ErrSlack},
		{slices.Concat([]byte{7}, run(128, 9), []byte{1}), api.ErrLong},
		{slices.Concat([]byte{7}, run(128, 9)), api.ErrLong},
		{slices.Concat(run(255, 9), []byte{128, 0}), api.ErrLong},
		{slices.Concat([]byte{128, 0}, run(255, 9)), api.ErrSlack},
		{slices.Concat([]byte{0, 0}, run(255, 8)), api.ErrShort},
	} {
		if l, e := varint.Split(x.b); e != x.e || len(l) != 0 {
			t.Errorf("Split(%v) = %v, %d", x.b, l, e)
		}
	}
}

// some is numbers of all lengths, both signs, and what lies beside them.
func some() []int {
	l := []int{math.MinInt, math.MaxInt}
	for n := -70000; n <= 70000; n += 7 {
		l = append(l, n)
	}
	for shift := range 63 {
		for near := -2; near <= 2; near++ {
			l = append(l, 1<<shift+near, -1<<shift+near, (1<<shift+near)*0x5555)
		}
	}
	return l
}

// P1.2: what is put is got as it was.
func TestPutGot(t *testing.T) {
	var kept []int
	for _, n := range some() {
		b := varint.PutSigned([]byte{3}, n)
		if got, size, e := varint.GetSigned(b[1:]); got != n || size != len(b)-1 || e != api.OK {
			t.Errorf("signed: %d is got as %d, %d, %d", n, got, size, e)
		}
		if n < 0 {
			continue
		}
		kept = append(kept, n)
		b = varint.Put([]byte{3}, n)
		if got, size, e := varint.Get(b[1:]); got != n || size != len(b)-1 || size != varint.Size(n) || e != api.OK {
			t.Errorf("%d is got as %d, %d, %d", n, got, size, e)
		}
	}
	if got, e := varint.Split(varint.List(some()...)); !slices.Equal(got, kept) || e != api.OK {
		t.Errorf("the list isn't split as it was: %d numbers of %d, %d", len(got), len(kept), e)
	}
}

// samples is bytes of many forms: all short ones of a few values, and long ones whose length is about the greatest that may be.
func samples() [][]byte {
	values := []byte{0, 1, 2, 63, 64, 127, 128, 129, 254, 255}
	all := [][]byte{nil}
	last := all
	for range 4 {
		var next [][]byte
		for _, b := range last {
			for _, x := range values {
				next = append(next, append(slices.Clone(b), x))
			}
		}
		all = append(all, next...)
		last = next
	}
	for _, x := range []byte{128, 129, 170, 213, 255} {
		for count := 4; count < 13; count++ {
			all = append(all, run(x, count))
			for tail := range 256 {
				all = append(all, run(x, count, byte(tail)))
			}
		}
	}
	return all
}

// answer is the error, and the size, that the chapter's words ask for, of a number of at most so many bytes.
func answer(b []byte, most int) (int, api.Errno) {
	end := slices.IndexFunc(b, func(x byte) bool { return x < 128 })
	switch {
	case end < 0 && len(b) < most:
		return 0, api.ErrShort
	case end < 0 || end >= most || end == 9 && b[end] > 1:
		return 0, api.ErrLong
	case end > 0 && b[end] == 0:
		return 0, api.ErrSlack
	}
	return end + 1, api.OK
}

// P1.1: which bytes are numbers; P1.2: what is got has just those bytes.
func TestGotPut(t *testing.T) {
	for _, b := range samples() {
		n, size, e := varint.Get(b)
		if ws, we := answer(b, 9); size != ws || e != we || n < 0 || e != api.OK && n != 0 {
			t.Errorf("Get(%v) = %d, %d, %d", b, n, size, e)
		} else if e == api.OK && !bytes.Equal(varint.Put(nil, n), b[:size]) {
			t.Errorf("of %v %d is got, whose bytes are others", b, n)
		}
		n, size, e = varint.GetSigned(b)
		if ws, we := answer(b, 10); size != ws || e != we || e != api.OK && n != 0 {
			t.Errorf("GetSigned(%v) = %d, %d, %d", b, n, size, e)
		} else if e == api.OK && !bytes.Equal(varint.PutSigned(nil, n), b[:size]) {
			t.Errorf("of %v signed %d is got, whose bytes are others", b, n)
		}
		if l, e := varint.Split(b); e == api.OK && !bytes.Equal(varint.List(l...), b) {
			t.Errorf("%v is split to %v, whose bytes are others", b, l)
		}
	}
}

// P1, rule 5: what is handed in is not changed, nor its spare room, and what Put answers is new memory.
func TestNewMemory(t *testing.T) {
	puts := map[string]func([]byte, int) []byte{"Put": varint.Put, "PutSigned": varint.PutSigned}
	for name, put := range puts {
		for _, n := range []int{-300, -1, 0, 5, 300, math.MaxInt} {
			room := run(77, 40)
			head := room[:3]
			first := put(head, n)
			want := slices.Clone(first)
			second := put(head, n)
			if !bytes.Equal(room, run(77, 40)) {
				t.Errorf("%s(.., %d) writes into what is handed in", name, n)
			}
			for i := range second {
				second[i] = 9
			}
			spare := second[len(second):cap(second)]
			for i := range spare {
				spare[i] = 9
			}
			if !bytes.Equal(room, run(77, 40)) || !bytes.Equal(first, want) {
				t.Errorf("%s(.., %d) answers memory that others have", name, n)
			}
		}
	}
}

// P1, rule 5: what is read is left as it was.
func TestUnchanged(t *testing.T) {
	room := slices.Concat(run(128, 4, 1), run(128, 20))
	b, want := room[:5], slices.Clone(room)
	varint.Get(b)
	varint.GetSigned(b)
	varint.Split(b)
	if !bytes.Equal(room, want) {
		t.Error("bytes that are read are changed")
	}
	l := []int{5, -1, 300, 7}
	varint.List(l[:3]...)
	if !slices.Equal(l, []int{5, -1, 300, 7}) {
		t.Error("numbers that are listed are changed")
	}
}

// P1, rules 1 and 6: calls end, and answer the same again.
func TestAgain(t *testing.T) {
	long := run(255, 1<<16)
	for range 2 {
		if _, _, e := varint.Get(long); e != api.ErrLong {
			t.Error(e)
		}
		if _, e := varint.Split(slices.Concat(run(1, 1<<16), long)); e != api.ErrLong {
			t.Error(e)
		}
		if l, e := varint.Split(run(1, 1<<16)); len(l) != 1<<16 || e != api.OK {
			t.Error(len(l), e)
		}
	}
}
