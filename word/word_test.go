package word_test

import (
	"math"
	"math/big"
	"slices"
	"strings"
	"sync"
	"testing"

	"tollbar/api"
	"tollbar/word"
)

// noRates: numbers that are no rate.
var noRates = []int{-1, -2, -255, -256, -api.MaxRate, math.MinInt, math.MinInt + 1, api.MaxRate + 1, api.MaxRate + 2, math.MaxInt - 1, math.MaxInt}

// rates: the least and the greatest number of each length in bytes, what stands beside them, and some between.
func rates() []int {
	xs := []int{0, 1, 2, 5, 100, 1000, 123456789, api.MaxRate/3 + 1}
	for size := 1; size <= 7; size++ {
		end := 1 << (8 * size)
		xs = append(xs, end-2, end-1, end, end+1)
	}
	return append(xs, api.MaxRate-1, api.MaxRate)
}

// edgeBytes: bytes at which an answer may turn.
var edgeBytes = []byte{0, 1, 2, 7, 8, 9, 0x3f, 0x40, 0x41, 0x7f, 0x80, 0xff}

// asBytes writes a rate by the words of the chapter, from its last byte on.
func asBytes(x int) string {
	digits := ""
	for ; x > 0; x /= 256 {
		digits = string([]byte{byte(x % 256)}) + digits
	}
	return string([]byte{byte(len(digits))}) + digits
}

// get reads by the words of the chapter, one after the other, with a number that has no bounds.
func get(s string, at int) (int, int, api.Errno) {
	if at < 0 || at > len(s) {
		return 0, 0, api.ErrWordForm
	}
	behind := []byte(s[at:])
	if len(behind) == 0 {
		return 0, 0, api.ErrWordShort
	}
	if behind[0] > 8 {
		return 0, 0, api.ErrWordForm
	}
	size := int(behind[0])
	if len(behind)-1 < size {
		return 0, 0, api.ErrWordShort
	}
	digits := behind[1 : 1+size]
	x := new(big.Int).SetBytes(digits)
	if size > 0 && digits[0] == 0 || x.Cmp(big.NewInt(api.MaxRate)) > 0 {
		return 0, 0, api.ErrWordForm
	}
	return int(x.Int64()), at + 1 + size, api.OK
}

// list reads one after the other with get, up to the end or the first error.
func list(s string) ([]int, api.Errno) {
	var xs []int
	at := 0
	for at != len(s) {
		x, next, err := get(s, at)
		if err != api.OK {
			return nil, err
		}
		xs, at = append(xs, x), next
	}
	return xs, api.OK
}

// texts calls f with each text of the bytes that is at most as long as most.
func texts(of []byte, most int, f func(s string)) {
	f("")
	row := []string{""}
	for range most {
		var longer []string
		for _, s := range row {
			for _, b := range of {
				longer = append(longer, s+string([]byte{b}))
			}
		}
		for _, s := range longer {
			f(s)
		}
		row = longer
	}
}

// P3.1: Put.

func TestPut(t *testing.T) {
	for _, c := range []struct {
		name string
		xs   []int
		want string
	}{
		{"nil", nil, ""},
		{"none", []int{}, ""},
		{"0", []int{0}, "\x00"},
		{"0 thrice", []int{0, 0, 0}, "\x00\x00\x00"},
		{"1", []int{1}, "\x01\x01"},
		{"one byte, the highest bit", []int{128}, "\x01\x80"},
		{"one byte, the greatest", []int{255}, "\x01\xff"},
		{"two bytes, the least", []int{256}, "\x02\x01\x00"},
		{"the highest first", []int{0x0102}, "\x02\x01\x02"},
		{"two bytes, the greatest", []int{0xffff}, "\x02\xff\xff"},
		{"three bytes, the least", []int{1 << 16}, "\x03\x01\x00\x00"},
		{"three bytes", []int{0x010203}, "\x03\x01\x02\x03"},
		{"three bytes, the greatest", []int{1<<24 - 1}, "\x03\xff\xff\xff"},
		{"four bytes, the least", []int{1 << 24}, "\x04\x01\x00\x00\x00"},
		{"four bytes", []int{0x80000001}, "\x04\x80\x00\x00\x01"},
		{"four bytes, the greatest", []int{1<<32 - 1}, "\x04\xff\xff\xff\xff"},
		{"five bytes, the least", []int{1 << 32}, "\x05\x01\x00\x00\x00\x00"},
		{"five bytes, the greatest", []int{1<<40 - 1}, "\x05\xff\xff\xff\xff\xff"},
		{"six bytes, the least", []int{1 << 40}, "\x06\x01\x00\x00\x00\x00\x00"},
		{"six bytes, the greatest", []int{1<<48 - 1}, "\x06\xff\xff\xff\xff\xff\xff"},
		{"seven bytes, the least", []int{1 << 48}, "\x07\x01\x00\x00\x00\x00\x00\x00"},
		{"seven bytes, the greatest", []int{1<<56 - 1}, "\x07\xff\xff\xff\xff\xff\xff\xff"},
		{"eight bytes, the least", []int{1 << 56}, "\x08\x01\x00\x00\x00\x00\x00\x00\x00"},
		{"eight bytes", []int{0x0102030405060708}, "\x08\x01\x02\x03\x04\x05\x06\x07\x08"},
		{"MaxRate less 1", []int{api.MaxRate - 1}, "\x08\x3f\xff\xff\xff\xff\xff\xff\xff"},
		{"MaxRate", []int{api.MaxRate}, "\x08\x40\x00\x00\x00\x00\x00\x00\x00"},
		{"one behind the other", []int{300, 0, 7}, "\x02\x01\x2c\x00\x01\x07"},
		{"in the row they came in", []int{7, 0, 300, 7}, "\x01\x07\x00\x02\x01\x2c\x01\x07"},
		{"MaxRate twice", []int{api.MaxRate, api.MaxRate}, "\x08\x40\x00\x00\x00\x00\x00\x00\x00\x08\x40\x00\x00\x00\x00\x00\x00\x00"},
	} {
		if got, err := word.Put(c.xs...); got != c.want || err != api.OK {
			t.Errorf("%s: Put(%v): %q, %d; want %q, OK", c.name, c.xs, got, err, c.want)
		}
	}
}

func TestPutOfEachLength(t *testing.T) {
	for _, a := range rates() {
		if got, err := word.Put(a); got != asBytes(a) || err != api.OK {
			t.Errorf("Put(%d): %q, %d; want %q, OK", a, got, err, asBytes(a))
		}
		for _, b := range rates() {
			if got, err := word.Put(a, b); got != asBytes(a)+asBytes(b) || err != api.OK {
				t.Errorf("Put(%d, %d): %q, %d; want %q, OK", a, b, got, err, asBytes(a)+asBytes(b))
			}
		}
	}
}

func TestPutOfEachSmallRate(t *testing.T) {
	for x := range 1 << 17 {
		if got, err := word.Put(x); got != asBytes(x) || err != api.OK {
			t.Fatalf("Put(%d): %q, %d; want %q, OK", x, got, err, asBytes(x))
		}
	}
}

func TestPutOfWhatIsNoRate(t *testing.T) {
	for _, w := range noRates {
		for _, xs := range [][]int{
			{w},
			{w, w},
			{w, 5},
			{5, w},
			{w, 5, 6},
			{5, w, 6},
			{5, 6, w},
			{0, w},
			{api.MaxRate, w, 0},
		} {
			if got, err := word.Put(xs...); got != "" || err != api.ErrWordForm {
				t.Errorf("Put(%v): %q, %d; want none, ErrWordForm", xs, got, err)
			}
		}
	}
}

// P3.2: Get.

func TestGet(t *testing.T) {
	for _, c := range []struct {
		name    string
		s       string
		at      int
		x, next int
		err     api.Errno
	}{
		{"0", "\x00", 0, 0, 1, api.OK},
		{"1", "\x01\x01", 0, 1, 2, api.OK},
		{"one byte, the greatest", "\x01\xff", 0, 255, 2, api.OK},
		{"the highest first", "\x02\x01\x02", 0, 0x0102, 3, api.OK},
		{"a 0 behind the first", "\x02\x01\x00", 0, 256, 3, api.OK},
		{"seven bytes", "\x07\xff\xff\xff\xff\xff\xff\xff", 0, 1<<56 - 1, 8, api.OK},
		{"eight bytes", "\x08\x01\x02\x03\x04\x05\x06\x07\x08", 0, 0x0102030405060708, 9, api.OK},
		{"MaxRate less 1", "\x08\x3f\xff\xff\xff\xff\xff\xff\xff", 0, api.MaxRate - 1, 9, api.OK},
		{"MaxRate", "\x08\x40\x00\x00\x00\x00\x00\x00\x00", 0, api.MaxRate, 9, api.OK},

		{"the first place", "\x01\x05\x00\x02\x01\x2c", 0, 5, 2, api.OK},
		{"a place within", "\x01\x05\x00\x02\x01\x2c", 2, 0, 3, api.OK},
		{"up to its end", "\x01\x05\x00\x02\x01\x2c", 3, 300, 6, api.OK},
		{"the last place", "\x01\x05\x00", 2, 0, 3, api.OK},
		{"a place where none was put", "\x02\x01\x05\x09", 1, 5, 3, api.OK},
		{"what is behind it is not asked", "\x01\x05\x09\xff\x00", 0, 5, 2, api.OK},
		{"what is ahead of it neither", "\x09\x01\x05", 1, 5, 3, api.OK},

		{"below 0", "\x00\x00", -1, 0, 0, api.ErrWordForm},
		{"far below 0", "\x00\x00", math.MinInt, 0, 0, api.ErrWordForm},
		{"above its length", "\x00\x00", 3, 0, 0, api.ErrWordForm},
		{"far above its length", "\x00\x00", math.MaxInt, 0, 0, api.ErrWordForm},
		{"of none, below 0", "", -1, 0, 0, api.ErrWordForm},
		{"of none, above its length", "", 1, 0, 0, api.ErrWordForm},

		{"no byte", "", 0, 0, 0, api.ErrWordShort},
		{"at its end", "\x00\x00", 2, 0, 0, api.ErrWordShort},
		{"at the end of a longer one", "\x01\x05\x02\x01\x00", 5, 0, 0, api.ErrWordShort},

		{"a length of 9, none behind it", "\x09", 0, 0, 0, api.ErrWordForm},
		{"a length of 9, too few behind it", "\x09\x01\x01", 0, 0, 0, api.ErrWordForm},
		{"a length of 9, as many behind it", "\x09\x01\x01\x01\x01\x01\x01\x01\x01\x01", 0, 0, 0, api.ErrWordForm},
		{"a length of 128", "\x80" + strings.Repeat("\x01", 200), 0, 0, 0, api.ErrWordForm},
		{"a length of 255", "\xff" + strings.Repeat("\x01", 300), 0, 0, 0, api.ErrWordForm},
		{"a length of 9 at the last place", "\x00\x09", 1, 0, 0, api.ErrWordForm},

		{"a length of 1, none behind it", "\x01", 0, 0, 0, api.ErrWordShort},
		{"a length of 2, one behind it", "\x02\x01", 0, 0, 0, api.ErrWordShort},
		{"a length of 8, none behind it", "\x08", 0, 0, 0, api.ErrWordShort},
		{"a length of 8, seven behind it", "\x08\x01\x01\x01\x01\x01\x01\x01", 0, 0, 0, api.ErrWordShort},
		{"too few, what is ahead does not count", "\x01\x01\x01\x02\x01", 3, 0, 0, api.ErrWordShort},
		{"too few and a first byte of 0", "\x02\x00", 0, 0, 0, api.ErrWordShort},
		{"too few and above MaxRate", "\x08\xff\xff\xff\xff\xff\xff\xff", 0, 0, 0, api.ErrWordShort},

		{"a first byte of 0", "\x01\x00", 0, 0, 0, api.ErrWordForm},
		{"a first byte of 0, two bytes", "\x02\x00\x05", 0, 0, 0, api.ErrWordForm},
		{"a first byte of 0, eight bytes", "\x08\x00\xff\xff\xff\xff\xff\xff\xff", 0, 0, 0, api.ErrWordForm},
		{"all of them 0", "\x08\x00\x00\x00\x00\x00\x00\x00\x00", 0, 0, 0, api.ErrWordForm},
		{"a first byte of 0, more behind it", "\x01\x00\x01\x05", 0, 0, 0, api.ErrWordForm},

		{"MaxRate and 1", "\x08\x40\x00\x00\x00\x00\x00\x00\x01", 0, 0, 0, api.ErrWordForm},
		{"the greatest int", "\x08\x7f\xff\xff\xff\xff\xff\xff\xff", 0, 0, 0, api.ErrWordForm},
		{"the bits of the least int", "\x08\x80\x00\x00\x00\x00\x00\x00\x00", 0, 0, 0, api.ErrWordForm},
		{"the bits of -1", "\x08\xff\xff\xff\xff\xff\xff\xff\xff", 0, 0, 0, api.ErrWordForm},
		{"above MaxRate, behind another", "\x01\x05\x08\x41\x00\x00\x00\x00\x00\x00\x00", 2, 0, 0, api.ErrWordForm},
	} {
		if x, next, err := word.Get(c.s, c.at); x != c.x || next != c.next || err != c.err {
			t.Errorf("%s: Get(%q, %d): %d, %d, %d; want %d, %d, %d", c.name, c.s, c.at, x, next, err, c.x, c.next, c.err)
		}
	}
}

// same holds Get at each place, and List, against the words of the chapter.
func same(t *testing.T, s string) {
	t.Helper()
	for _, at := range []int{math.MinInt, math.MinInt + 1, -9, -8, -2, math.MaxInt - 9, math.MaxInt - 1, math.MaxInt} {
		if x, next, err := word.Get(s, at); x != 0 || next != 0 || err != api.ErrWordForm {
			t.Fatalf("Get(%q, %d): %d, %d, %d; want 0, 0, ErrWordForm", s, at, x, next, err)
		}
	}
	for at := -1; at <= len(s)+1; at++ {
		wantX, wantNext, wantErr := get(s, at)
		if x, next, err := word.Get(s, at); x != wantX || next != wantNext || err != wantErr {
			t.Fatalf("Get(%q, %d): %d, %d, %d; want %d, %d, %d", s, at, x, next, err, wantX, wantNext, wantErr)
		}
	}
	want, wantErr := list(s)
	if xs, err := word.List(s); !slices.Equal(xs, want) || err != wantErr {
		t.Fatalf("List(%q): %v, %d; want %v, %d", s, xs, err, want, wantErr)
	}
}

func TestGetAndListOfAllShortTexts(t *testing.T) {
	texts([]byte{0, 1, 2, 3, 4, 8, 9, 0xff}, 5, func(s string) { same(t, s) })
}

func TestGetOfEachLengthAndFirstByte(t *testing.T) {
	for size := range 256 {
		for _, first := range edgeBytes {
			for _, other := range edgeBytes {
				for behind := range 11 {
					s := []byte{byte(size)}
					for i := range behind {
						s = append(s, other)
						if i == 0 {
							s[1] = first
						}
					}
					same(t, string(s))
				}
			}
		}
	}
}

// Each byte of MaxRate, turned, and each first byte that eight bytes may have.
func TestGetAboutMaxRate(t *testing.T) {
	for i := range 8 {
		for b := range 256 {
			for _, base := range []string{"\x08\x40\x00\x00\x00\x00\x00\x00\x00", "\x08\x3f\xff\xff\xff\xff\xff\xff\xff"} {
				s := []byte(base)
				s[1+i] = byte(b)
				same(t, string(s))
			}
		}
	}
}

func TestGetOfWhatWasPut(t *testing.T) {
	for _, x := range rates() {
		for _, ahead := range []string{"", "\x00", "\xff", "\x08\x40"} {
			for _, behind := range []string{"", "\x00", "\xff", "\x01\x00"} {
				s, _ := word.Put(x)
				got, next, err := word.Get(ahead+s+behind, len(ahead))
				if got != x || next != len(ahead)+len(s) || err != api.OK {
					t.Errorf("Get of %d behind %q, ahead of %q: %d, %d, %d", x, ahead, behind, got, next, err)
				}
			}
		}
	}
}

// P3.2: List.

func TestList(t *testing.T) {
	for _, c := range []struct {
		name string
		s    string
		want []int
		err  api.Errno
	}{
		{"none", "", nil, api.OK},
		{"0", "\x00", []int{0}, api.OK},
		{"0 thrice", "\x00\x00\x00", []int{0, 0, 0}, api.OK},
		{"one", "\x02\x01\x00", []int{256}, api.OK},
		{"some", "\x02\x01\x2c\x00\x01\x07\x01\x07", []int{300, 0, 7, 7}, api.OK},
		{"MaxRate", "\x08\x40\x00\x00\x00\x00\x00\x00\x00\x01\x01", []int{api.MaxRate, 1}, api.OK},
		{"too few at its end", "\x01\x05\x02\x01", nil, api.ErrWordShort},
		{"none behind the last byte", "\x01\x05\x01", nil, api.ErrWordShort},
		{"a length of 9 at its end", "\x01\x05\x09", nil, api.ErrWordForm},
		{"a first byte of 0 at its end", "\x01\x05\x01\x00", nil, api.ErrWordForm},
		{"a wrong one at its front", "\x09\x01\x05", nil, api.ErrWordForm},
		{"a wrong one within", "\x01\x05\x01\x00\x01\x05", nil, api.ErrWordForm},
		{"above MaxRate within", "\x01\x05\x08\x40\x00\x00\x00\x00\x00\x00\x01\x01\x05", nil, api.ErrWordForm},
		{"a wrong one, then too few", "\x01\x05\x01\x00\x02\x01", nil, api.ErrWordForm},
		{"too few takes the wrong one in", "\x08\x01\x00\x09", nil, api.ErrWordShort},
	} {
		if got, err := word.List(c.s); !slices.Equal(got, c.want) || err != c.err {
			t.Errorf("%s: List(%q): %v, %d; want %v, %d", c.name, c.s, got, err, c.want, c.err)
		}
	}
}

func TestListOfWhatWasPut(t *testing.T) {
	all := rates()
	for from := range all {
		for to := from; to <= len(all); to++ {
			s, err := word.Put(all[from:to]...)
			if err != api.OK {
				t.Fatalf("Put(%v): %d", all[from:to], err)
			}
			if got, err := word.List(s); !slices.Equal(got, all[from:to]) || err != api.OK {
				t.Fatalf("List of Put of %v: %v, %d", all[from:to], got, err)
			}
		}
	}
}

// One rate has one way to be written: what was read, put again, is the bytes it came in.
func TestPutOfWhatWasRead(t *testing.T) {
	read := 0
	texts([]byte{0, 1, 2, 3, 0x40, 0xff}, 6, func(s string) {
		xs, err := word.List(s)
		if err != api.OK {
			return
		}
		read++
		if got, err := word.Put(xs...); got != s || err != api.OK {
			t.Fatalf("Put of List of %q: %q, %d", s, got, err)
		}
	})
	if read < 1000 {
		t.Errorf("only %d texts were read", read)
	}
}

// Many numbers take a time that goes with how many they are.
func TestMany(t *testing.T) {
	xs := slices.Repeat(rates(), 20000)
	s, err := word.Put(xs...)
	if err != api.OK {
		t.Fatalf("Put: %d", err)
	}
	if got, err := word.List(s); !slices.Equal(got, xs) || err != api.OK {
		t.Fatalf("List: %d numbers, %d; want %d, OK", len(got), err, len(xs))
	}
	if got, err := word.List(s + "\x01"); len(got) != 0 || err != api.ErrWordShort {
		t.Fatalf("List: %d numbers, %d; want none, ErrWordShort", len(got), err)
	}
}

// R4: what is handed in is not changed, its spare room neither.
func TestPutTurnsNothing(t *testing.T) {
	for _, row := range [][]int{{}, {7}, {300, 0, 7}, {5, -1, 6}, {api.MaxRate, 256, api.MaxRate + 1}} {
		whole := append(slices.Clone(row), 9, 8, 7)
		before := slices.Clone(whole)
		word.Put(whole[:len(row)]...)
		if !slices.Equal(whole, before) {
			t.Errorf("Put(%v): its memory was %v, is %v", row, before, whole)
		}
	}
}

// R4: what is handed in is not kept.
func TestPutKeepsNothing(t *testing.T) {
	xs := []int{300, 0, 7}
	s, _ := word.Put(xs...)
	clear(xs)
	if want := "\x02\x01\x2c\x00\x01\x07"; s != want {
		t.Errorf("the answer is %q now, want %q", s, want)
	}
}

// R4: two answers share nothing.
func TestListAnswersNewMemory(t *testing.T) {
	s := "\x02\x01\x2c\x00\x01\x07"
	a, _ := word.List(s)
	b, _ := word.List(s)
	for i := range a[:cap(a)] {
		a[:cap(a)][i] = -7
	}
	if want := []int{300, 0, 7}; !slices.Equal(b, want) {
		t.Errorf("another answer is %v now, want %v", b, want)
	}
}

// R5: functions may be called from several goroutines at one time.
func TestFromSeveralGoroutines(t *testing.T) {
	xs := rates()
	want, _ := word.Put(xs...)
	var all sync.WaitGroup
	for range 8 {
		all.Go(func() {
			for range 200 {
				s, _ := word.Put(xs...)
				back, _ := word.List(s)
				x, next, _ := word.Get(s, 1)
				if s != want || !slices.Equal(back, xs) || x != 1 || next != 3 {
					t.Errorf("Put: %q, List: %v, Get: %d, %d", s, back, x, next)
				}
			}
		})
	}
	all.Wait()
}
