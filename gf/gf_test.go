package gf_test

import (
	"math"
	"math/bits"
	"sync"
	"testing"

	"cartridge/gf"
)

// product multiplies as polynomials and takes the rest of the long division by the field's
// polynomial, so that nothing here leans on what is tested.
func product(a, b byte) byte {
	long := 0
	for i := range 8 {
		if b>>i&1 == 1 {
			long ^= int(a) << i
		}
	}
	const polynomial = 1<<8 | 1<<4 | 1<<3 | 1<<2 | 1
	for i := 14; i >= 8; i-- {
		if long>>i&1 == 1 {
			long ^= polynomial << (i - 8)
		}
	}
	return byte(long)
}

// opposite looks for the inverse among all elements; of 0 there is none, and it answers 0.
func opposite(a byte) byte {
	for b := range 256 {
		if product(a, byte(b)) == 1 {
			return byte(b)
		}
	}
	return 0
}

// repeated multiplies n times.
func repeated(a byte, n int) byte {
	power := byte(1)
	for range n {
		power = product(power, a)
	}
	return power
}

// halfRange answers a to the number of ints that are not below 0, by squaring alone.
func halfRange(a byte) byte {
	for range bits.UintSize - 1 {
		a = product(a, a)
	}
	return a
}

func eachElement(do func(a byte)) {
	for a := range 256 {
		do(byte(a))
	}
}

func eachPair(do func(a, b byte)) {
	eachElement(func(a byte) {
		eachElement(func(b byte) { do(a, b) })
	})
}

func TestAdd(t *testing.T) {
	eachPair(func(a, b byte) {
		var want byte
		for i := range 8 {
			want |= (a>>i + b>>i) & 1 << i
		}
		if got := gf.Add(a, b); got != want {
			t.Errorf("P101: Add(%d, %d): %d, not %d", a, b, got, want)
		}
	})
}

func TestMulByHand(t *testing.T) {
	for _, c := range []struct{ a, b, want byte }{
		{0, 0, 0},
		{0, 255, 0},
		{1, 255, 255},
		{255, 1, 255},
		{3, 3, 5},      // (x+1)^2 = x^2+1: no carry
		{2, 64, 128},   // the last one that stays below x^8
		{2, 128, 29},   // x^8: the chapter's example
		{4, 128, 58},   // x^9
		{16, 16, 29},   // x^8 again
		{128, 128, 19}, // x^14
		{2, 142, 1},    // the inverse of x
	} {
		if got := gf.Mul(c.a, c.b); got != c.want {
			t.Errorf("P101: Mul(%d, %d): %d, not %d", c.a, c.b, got, c.want)
		}
	}
}

func TestMul(t *testing.T) {
	eachPair(func(a, b byte) {
		if got, want := gf.Mul(a, b), product(a, b); got != want {
			t.Errorf("P101: Mul(%d, %d): %d, not %d", a, b, got, want)
		}
	})
}

func TestInv(t *testing.T) {
	if got := gf.Inv(0); got != 0 {
		t.Errorf("P101: Inv(0): %d", got)
	}
	eachElement(func(a byte) {
		if got, want := gf.Inv(a), opposite(a); got != want {
			t.Errorf("P101: Inv(%d): %d, not %d", a, got, want)
		}
	})
}

func TestDiv(t *testing.T) {
	eachPair(func(a, b byte) {
		got := gf.Div(a, b)
		if b == 0 && got != 0 {
			t.Errorf("P101: Div(%d, 0): %d", a, got)
		}
		if b != 0 && product(got, b) != a {
			t.Errorf("P101: Div(%d, %d): %d, and times %d that is not %d", a, b, got, b, a)
		}
	})
}

func TestPowOfZeroElement(t *testing.T) {
	for _, n := range []int{1, 2, 254, 255, 256, 510, math.MaxInt - 127, math.MaxInt} {
		if got := gf.Pow(0, n); got != 0 {
			t.Errorf("P101: Pow(0, %d): %d", n, got)
		}
	}
	for _, n := range []int{-1, -2, -254, -255, -256, -510, math.MinInt + 128, math.MinInt} {
		if got := gf.Pow(0, n); got != 0 {
			t.Errorf("P101: Pow(0, %d): %d", n, got)
		}
	}
}

func TestPowToZero(t *testing.T) {
	eachElement(func(a byte) {
		if got := gf.Pow(a, 0); got != 1 {
			t.Errorf("P101: Pow(%d, 0): %d", a, got)
		}
	})
}

func TestPowUpAndDown(t *testing.T) {
	eachElement(func(a byte) {
		up, down := byte(1), byte(1)
		back := opposite(a)
		for n := range 1100 {
			if got := gf.Pow(a, n); got != up {
				t.Fatalf("P101: Pow(%d, %d): %d, not %d", a, n, got, up)
			}
			if got := gf.Pow(a, -n); got != down {
				t.Fatalf("P101: Pow(%d, %d): %d, not %d", a, -n, got, down)
			}
			up, down = product(up, a), product(down, back)
		}
	})
}

// Near the greatest int MaxInt - k, a to it times a^(k+1) is a to MaxInt + 1; near the least one
// MinInt + k, a to it times a to -MinInt is a^k. Neither leans on how the answer is found.
func TestPowAtTheEndsOfInt(t *testing.T) {
	for a := byte(1); a != 0; a++ {
		far := halfRange(a)
		for k := range 300 {
			high, low := math.MaxInt-k, math.MinInt+k
			if got := gf.Pow(a, high); product(got, repeated(a, k+1)) != far {
				t.Fatalf("P101: Pow(%d, %d): %d", a, high, got)
			}
			if got := gf.Pow(a, low); product(got, far) != repeated(a, k) {
				t.Fatalf("P101: Pow(%d, %d): %d", a, low, got)
			}
		}
	}
}

func TestPowOfPowersOfTwo(t *testing.T) {
	for a := byte(1); a != 0; a++ {
		up, down := a, opposite(a)
		for i := range bits.UintSize - 1 {
			n := 1 << i
			if got := gf.Pow(a, n); got != up {
				t.Errorf("P101: Pow(%d, %d): %d, not %d", a, n, got, up)
			}
			if got := gf.Pow(a, -n); got != down {
				t.Errorf("P101: Pow(%d, %d): %d, not %d", a, -n, got, down)
			}
			up, down = product(up, up), product(down, down)
		}
	}
}

// all calls everything on all pairs (the second one also as an exponent of either sign).
func all(pairs func(do func(a, b byte))) [256][256][6]byte {
	var answers [256][256][6]byte
	pairs(func(a, b byte) {
		answers[a][b] = [6]byte{
			gf.Add(a, b), gf.Mul(a, b), gf.Inv(a), gf.Div(a, b),
			gf.Pow(a, int(b)), gf.Pow(a, -int(b)),
		}
	})
	return answers
}

func eachPairBackwards(do func(a, b byte)) {
	eachPair(func(a, b byte) { do(255-b, 255-a) })
}

func TestAnswersHangOnArgumentsAlone(t *testing.T) {
	first := all(eachPair)
	if all(eachPair) != first {
		t.Error("P102: the same calls once more answer otherwise")
	}
	if all(eachPairBackwards) != first {
		t.Error("P102: the same calls in another order answer otherwise")
	}
}

func TestAnswersBesideOneAnother(t *testing.T) {
	first := all(eachPair)
	var same [4]bool
	var workers sync.WaitGroup
	for i := range same {
		workers.Go(func() { same[i] = all(eachPair) == first })
	}
	workers.Wait()
	for i, ok := range same {
		if !ok {
			t.Errorf("P102: worker %d was answered otherwise", i)
		}
	}
}
