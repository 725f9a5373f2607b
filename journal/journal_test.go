package journal

import (
	"bytes"
	"fmt"
	"math"
	"slices"
	"testing"

	"tokenhall/api"
)

// full has the greatest number in each field.
func full() api.DeskOp {
	return api.DeskOp{Kind: 255, User: 255, Tran: 255, Item: 65535, To: 255}
}

// field is one of the numbers of an op, and the greatest one that it may be.
type field struct {
	name string
	of   func(o *api.DeskOp) *int
	most int
}

func fields() []field {
	return []field{
		{"Kind", func(o *api.DeskOp) *int { return &o.Kind }, 255},
		{"User", func(o *api.DeskOp) *int { return &o.User }, 255},
		{"Tran", func(o *api.DeskOp) *int { return &o.Tran }, 255},
		{"To", func(o *api.DeskOp) *int { return &o.To }, 255},
		{"Item", func(o *api.DeskOp) *int { return &o.Item }, 65535},
	}
}

// with is o with another number in one field.
func (f field) with(o api.DeskOp, x int) api.DeskOp {
	*f.of(&o) = x
	return o
}

// toldSum goes bit by bit: bit j of byte k comes to bit j+k, and what goes out above comes in below.
func toldSum(six []byte) byte {
	bit := [8]int{0, 1, 0, 1, 1, 0, 1, 0} // 0x5a, the least one first
	for k, x := range six {
		for j := range 8 {
			if x&(1<<j) != 0 {
				bit[(j+k)%8]++
			}
		}
	}
	s := 0
	for j, times := range bit {
		s += times % 2 << j
	}
	return byte(s)
}

// toldWrite is what R1 says, with the bytes by division.
func toldWrite(o api.DeskOp) ([]byte, api.Errno) {
	for _, f := range fields() {
		if x := *f.of(&o); x < 0 || x > f.most {
			return nil, api.ErrRange
		}
	}
	six := []byte{byte(o.Kind), byte(o.User), byte(o.Tran), byte(o.To), byte(o.Item / 256), byte(o.Item % 256)}
	return append(slices.Clone(six), toldSum(six)), api.OK
}

// toldRead is what R2 says.
func toldRead(b []byte) (l []api.DeskOp, used int, err api.Errno) {
	for used+7 <= len(b) {
		x := b[used : used+7]
		if toldSum(x[:6]) != x[6] {
			return l, used, api.ErrSum
		}
		l = append(l, api.DeskOp{Kind: int(x[0]), User: int(x[1]), Tran: int(x[2]), To: int(x[3]), Item: 256*int(x[4]) + int(x[5])})
		used += 7
	}
	return l, used, api.OK
}

func checkWrite(t *testing.T, what string, o api.DeskOp, want []byte, err api.Errno) {
	t.Helper()
	if got, e := Write(o); !bytes.Equal(got, want) || e != err {
		t.Errorf("%s: Write(%+v) is %v, %d, not %v, %d", what, o, got, e, want, err)
	}
}

func checkRead(t *testing.T, what string, b []byte, want []api.DeskOp, used int, err api.Errno) {
	t.Helper()
	if got, n, e := Read(b); !slices.Equal(got, want) || n != used || e != err {
		t.Errorf("%s: Read(%v) is %+v, %d, %d, not %+v, %d, %d", what, b, got, n, e, want, used, err)
	}
}

// written is the bytes of these ops, one behind the other.
func written(t *testing.T, ops ...api.DeskOp) []byte {
	t.Helper()
	var b []byte
	for _, o := range ops {
		x, err := Write(o)
		if err != api.OK {
			t.Fatalf("Write(%+v) answers %d", o, err)
		}
		b = append(b, x...)
	}
	return b
}

func someOps() []api.DeskOp {
	return []api.DeskOp{
		{Kind: api.DeskBegin, User: 2, Tran: 3},
		{Kind: api.DeskGive, User: 2, Item: 300, To: 1},
		{},
		full(),
		{Kind: api.DeskEnd, User: 1, Item: 300},
	}
}

func TestWrite(t *testing.T) {
	for _, c := range []struct {
		what string
		op   api.DeskOp
		want []byte
	}{
		{"noughts", api.DeskOp{}, []byte{0, 0, 0, 0, 0, 0, 0x5a}},
		{"each field", api.DeskOp{Kind: 1, User: 2, Tran: 3, Item: 4, To: 5}, []byte{1, 2, 3, 5, 0, 4, 0xfb}},
		{"the greatest numbers", full(), []byte{255, 255, 255, 255, 255, 255, 0x5a}},
		{"Kind is not turned", api.DeskOp{Kind: 0x81}, []byte{0x81, 0, 0, 0, 0, 0, 0x5a ^ 0x81}},
		{"User is turned by one", api.DeskOp{User: 0x81}, []byte{0, 0x81, 0, 0, 0, 0, 0x5a ^ 0x03}},
		{"Tran is turned by two", api.DeskOp{Tran: 0x81}, []byte{0, 0, 0x81, 0, 0, 0, 0x5a ^ 0x06}},
		{"To is turned by three", api.DeskOp{To: 0x81}, []byte{0, 0, 0, 0x81, 0, 0, 0x5a ^ 0x0c}},
		{"the greater byte of Item is turned by four", api.DeskOp{Item: 0x8100}, []byte{0, 0, 0, 0, 0x81, 0, 0x5a ^ 0x18}},
		{"the lesser byte of Item is turned by five", api.DeskOp{Item: 0x81}, []byte{0, 0, 0, 0, 0, 0x81, 0x5a ^ 0x30}},
		{"Item of two bytes", api.DeskOp{Item: 0x1234}, []byte{0, 0, 0, 0, 0x12, 0x34, 0xfd}},
		{"a kind that no desk has", api.DeskOp{Kind: 99}, []byte{99, 0, 0, 0, 0, 0, 0x5a ^ 99}},
		{"fields that its kind has not", api.DeskOp{Kind: api.DeskSkip, User: 7, Tran: 1, Item: 1, To: 9}, []byte{5, 7, 1, 9, 0, 1, 0x3d}},
	} {
		checkWrite(t, c.what, c.op, c.want, api.OK)
		checkRead(t, c.what, c.want, []api.DeskOp{c.op}, 7, api.OK)
	}
}

func TestWriteOutOfRange(t *testing.T) {
	for _, f := range fields() {
		for _, o := range []api.DeskOp{{}, {Kind: 1, User: 2, Tran: 3, Item: 4, To: 5}, full()} {
			for _, x := range []int{-1, -2, -255, -256, -65536, f.most + 1, f.most + 2, 65536, 65537, 1 << 32, -1 << 32, 1<<32 + 1, math.MaxInt, math.MinInt, math.MinInt + 1} {
				checkWrite(t, f.name, f.with(o, x), nil, api.ErrRange)
			}
			for _, x := range []int{0, 1, f.most - 1, f.most} {
				if _, err := Write(f.with(o, x)); err != api.OK {
					t.Errorf("%s: Write(%+v) answers %d", f.name, f.with(o, x), err)
				}
			}
		}
	}
	for _, f := range fields() {
		for _, g := range fields() {
			checkWrite(t, f.name+" and "+g.name, f.with(g.with(full(), g.most+1), -1), nil, api.ErrRange)
		}
	}
}

func TestEachNumber(t *testing.T) {
	for _, f := range fields() {
		for _, o := range []api.DeskOp{{}, full()} {
			for x := range f.most + 1 {
				op := f.with(o, x)
				want, _ := toldWrite(op)
				checkWrite(t, f.name, op, want, api.OK)
				checkRead(t, f.name, want, []api.DeskOp{op}, 7, api.OK)
			}
		}
	}
}

// some calls each with numbers from a row that is the same each time.
func some(count int, each func(next func(below int) int)) {
	seed := uint64(18)
	next := func(below int) int {
		seed = seed*6364136223846793005 + 1442695040888963407
		return int(seed >> 33 % uint64(below))
	}
	for range count {
		each(next)
	}
}

func TestManyOps(t *testing.T) {
	refused := 0
	some(100000, func(next func(below int) int) {
		var o api.DeskOp
		for _, f := range fields() {
			o = f.with(o, next(f.most+1))
			if next(40) == 0 {
				o = f.with(o, next(4*f.most)-2*f.most)
			}
		}
		want, err := toldWrite(o)
		checkWrite(t, "as it is told", o, want, err)
		if err != api.OK {
			refused++
			return
		}
		checkRead(t, "as it is told", want, []api.DeskOp{o}, 7, api.OK)
	})
	if refused < 1000 {
		t.Errorf("%d refused: too few to tell", refused)
	}
}

func TestReadWhatIsThere(t *testing.T) {
	ops := someOps()
	b := written(t, ops...)
	for n := range len(b) + 1 {
		checkRead(t, fmt.Sprint(n, " bytes"), b[:n], ops[:n/7], n/7*7, api.OK)
	}
	checkRead(t, "nothing", nil, nil, 0, api.OK)
	checkRead(t, "an empty list", []byte{}, nil, 0, api.OK)
}

func TestFewerThanSevenAreNotLookedAt(t *testing.T) {
	ops := someOps()
	b := written(t, ops...)
	for n := range 7 {
		for _, x := range []byte{0, 1, 0x5a, 255} {
			checkRead(t, "behind ops", append(slices.Clone(b), bytes.Repeat([]byte{x}, n)...), ops, len(b), api.OK)
			checkRead(t, "alone", bytes.Repeat([]byte{x}, n), nil, 0, api.OK)
		}
	}
	checkRead(t, "seven of them", append(slices.Clone(b), make([]byte, 7)...), ops, len(b), api.ErrSum)
}

// A bit that changed changes the sum, wherever it is; what is behind it is not told, however right it is.
func TestSpoiltBits(t *testing.T) {
	ops := someOps()
	b := written(t, ops...)
	for at := range b {
		for bit := range 8 {
			b[at] ^= 1 << bit
			checkRead(t, fmt.Sprint("byte ", at), b, ops[:at/7], at/7*7, api.ErrSum)
			b[at] ^= 1 << bit
		}
	}
	for at := range b {
		for x := range 255 {
			spoilt := slices.Clone(b)
			spoilt[at] += byte(x + 1)
			checkRead(t, fmt.Sprint("byte ", at), spoilt, ops[:at/7], at/7*7, api.ErrSum)
		}
	}
}

func TestEachLastByte(t *testing.T) {
	for _, o := range someOps() {
		b := written(t, o)
		right := b[6]
		for x := range 256 {
			b[6] = byte(x)
			if b[6] == right {
				checkRead(t, "the sum", b, []api.DeskOp{o}, 7, api.OK)
				continue
			}
			checkRead(t, "another byte", b, nil, 0, api.ErrSum)
		}
	}
}

func TestWhereSevenBegin(t *testing.T) {
	o := api.DeskOp{Kind: api.DeskBegin, User: 2, Tran: 3}
	b := written(t, o, o, o)
	checkRead(t, "a byte is lost", b[1:], nil, 0, api.ErrSum)
	checkRead(t, "a byte too many", append([]byte{0}, b...), nil, 0, api.ErrSum)
	lost := append(slices.Clone(b[:9]), b[10:]...)
	checkRead(t, "a byte is lost later", lost, []api.DeskOp{o}, 7, api.ErrSum)
	checkRead(t, "the last seven lose one", b[:20], []api.DeskOp{o, o}, 14, api.OK)
}

// Bytes of any kind, most of them with right sums, as R2 tells them.
func TestManyBytes(t *testing.T) {
	var came [8]int // by how many ops there are ahead of a wrong sum
	whole := 0
	some(50000, func(next func(below int) int) {
		b := make([]byte, next(50))
		for k := range b {
			b[k] = byte(next(256))
			if k%7 == 6 && next(6) > 0 {
				b[k] = toldSum(b[k-6 : k])
			}
		}
		l, used, err := toldRead(b)
		checkRead(t, "as it is told", b, l, used, err)
		if err == api.OK {
			whole++
			return
		}
		came[len(l)]++
	})
	if whole < 1000 {
		t.Errorf("%d without a wrong sum: too few to tell", whole)
	}
	for k, times := range came[:6] {
		if times < 300 {
			t.Errorf("%d with %d ops ahead of a wrong sum: too few to tell", times, k)
		}
	}
}

// What is read of right bytes is written as the same bytes again.
func TestThereAndBack(t *testing.T) {
	some(20000, func(next func(below int) int) {
		var b []byte
		for range next(6) {
			six := make([]byte, 6)
			for k := range six {
				six[k] = byte(next(256))
			}
			b = append(append(b, six...), toldSum(six))
		}
		l, used, err := Read(b)
		if used != len(b) || err != api.OK {
			t.Fatalf("Read(%v) takes %d bytes, %d", b, used, err)
		}
		if again := written(t, l...); !bytes.Equal(again, b) {
			t.Fatalf("Read(%v), written again, is %v", b, again)
		}
	})
}

func TestOnlyRead(t *testing.T) {
	b := written(t, someOps()...)
	for _, spoilt := range []bool{false, true} {
		if spoilt {
			b[16]++
		}
		was := slices.Clone(b)
		for n := range len(b) + 1 {
			Read(b[:n])
			if !bytes.Equal(b, was) {
				t.Fatalf("Read of %d bytes changed them", n)
			}
		}
	}
}

func TestSpareRoom(t *testing.T) {
	ops := someOps()
	b := written(t, ops...)
	for n := range len(b) + 1 {
		for _, x := range []byte{0, 255} {
			room := bytes.Repeat([]byte{x}, len(b)+20)
			copy(room, b[:n])
			checkRead(t, "with spare room", room[:n], ops[:n/7], n/7*7, api.OK)
		}
	}
}

func TestAnswersAreNew(t *testing.T) {
	b := written(t, someOps()...)
	first, _, _ := Read(b)
	clear(b)
	if !slices.Equal(first, someOps()) {
		t.Error("what was read changes with the bytes")
	}
	b = written(t, someOps()...)
	first, _, _ = Read(b)
	clear(first[:cap(first)])
	checkRead(t, "once more", b, someOps(), len(b), api.OK)

	x, _ := Write(full())
	y, _ := Write(full())
	clear(x[:cap(x)])
	if !bytes.Equal(y, []byte{255, 255, 255, 255, 255, 255, 0x5a}) {
		t.Errorf("two writings share memory: %v", y)
	}
	checkWrite(t, "once more", full(), y, api.OK)
}

func TestNothingIsKept(t *testing.T) {
	b := written(t, someOps()...)
	Read(b[:9])
	checkRead(t, "behind a piece", b, someOps(), len(b), api.OK)
	Read(make([]byte, 21))
	checkRead(t, "behind what is wrong", b, someOps(), len(b), api.OK)
	Write(api.DeskOp{Kind: -1})
	checkWrite(t, "behind what is wrong", api.DeskOp{}, []byte{0, 0, 0, 0, 0, 0, 0x5a}, api.OK)
}

func TestMuch(t *testing.T) {
	const count = 200000
	b := bytes.Repeat(written(t, someOps()...), count)
	l, used, err := Read(b)
	if len(l) != 5*count || used != len(b) || err != api.OK {
		t.Fatalf("%d ops of %d bytes, %d", len(l), used, err)
	}
	b[len(b)-1]++
	l, used, err = Read(b)
	if len(l) != 5*count-1 || used != len(b)-7 || err != api.ErrSum {
		t.Fatalf("%d ops of %d bytes, %d", len(l), used, err)
	}
}

func ExampleWrite() {
	b, err := Write(api.DeskOp{Kind: api.DeskGive, User: 0, Item: 258, To: 2})
	fmt.Println(b, err == api.OK)
	_, err = Write(api.DeskOp{Kind: api.DeskBegin, User: 256})
	fmt.Println(err == api.ErrRange)
	// Output:
	// [4 0 0 2 1 2 30] true
	// true
}

func ExampleRead() {
	first, _ := Write(api.DeskOp{Kind: api.DeskBegin, User: 0, Tran: 1})
	second, _ := Write(api.DeskOp{Kind: api.DeskEnd, User: 0, Item: 0})
	both := append(first, second...)
	l, used, err := Read(both[:13])
	fmt.Println(l, used, err == api.OK)
	both[12] = 1
	l, used, err = Read(both)
	fmt.Println(l, used, err == api.ErrSum)
	// Output:
	// [{1 0 1 0 0}] 7 true
	// [{1 0 1 0 0}] 7 true
}
