package tests

import (
	"math"
	"math/big"
	"testing"

	"loop.example/g00346/impl"
)

const leastWord = -2147483648
const greatestWord = 2147483647

// edgeWords are those next to which something goes round, and ordinary ones.
var edgeWords = []int64{
	leastWord, leastWord + 1, leastWord / 2, -1000003, -65537, -65536, -46341, -7, -2, -1, 0,
	1, 2, 3, 7, 100, 46340, 46341, 65535, 65536, 65537, 1000003, greatestWord/2 + 1, greatestWord - 1, greatestWord,
}

// manyNumbers are edges of int64 and of its powers of 2, with what is next to
// them, and numbers from all over.
func manyNumbers() []int64 {
	numbers := []int64{math.MinInt64, math.MinInt64 + 1, math.MaxInt64 - 1, math.MaxInt64}
	for power := range 63 {
		for next := int64(-2); next <= 2; next++ {
			numbers = append(numbers, int64(1)<<power+next, -(int64(1)<<power)+next)
		}
	}
	n := uint64(17)
	for range 2000 {
		n = n*6364136223846793005 + 1442695040888963407
		numbers = append(numbers, int64(n), int64(n)>>20, int64(n)>>31, int64(n)>>40)
	}
	return numbers
}

// wrapped is told by numbers of any size, so that nothing goes round in it but
// what is asked.
func wrapped(n *big.Int) int64 {
	round := big.NewInt(1 << 32)
	low := new(big.Int).Sub(n, big.NewInt(leastWord))
	// Mod is never below 0, whatever the sign.
	low.Mod(low, round)
	return low.Int64() + leastWord
}

func reckoned(kind, a, b int64) int64 {
	x, y, z := big.NewInt(a), big.NewInt(b), new(big.Int)
	switch kind {
	case impl.NdAdd:
		z.Add(x, y)
	case impl.NdSub:
		z.Sub(x, y)
	case impl.NdMul:
		z.Mul(x, y)
	case impl.NdDiv:
		// Quo rounds to 0.
		z.Quo(x, y)
	}
	return wrapped(z)
}

func mustBeDone(t *testing.T, kind, a, b, want int64) {
	t.Helper()
	if got, is := impl.Done(kind, a, b); got != want || !is {
		t.Errorf("Done of kind %d of %d and %d is %d, %v, not %d, true", kind, a, b, got, is, want)
	}
}

func mustNotBeDone(t *testing.T, kind, a, b int64) {
	t.Helper()
	if got, is := impl.Done(kind, a, b); got != 0 || is {
		t.Errorf("Done of kind %d of %d and %d is %d, %v, not 0, false", kind, a, b, got, is)
	}
}

func TestWordOkEdges(t *testing.T) {
	for _, n := range edgeWords {
		if !impl.WordOk(n) {
			t.Errorf("%d is a word", n)
		}
	}
	none := []int64{
		leastWord - 1, greatestWord + 1, 4294967295, 4294967296, -4294967296, -4294967297,
		1 << 62, -1 << 62, math.MinInt64, math.MinInt64 + 1, math.MaxInt64 - 1, math.MaxInt64,
	}
	for _, n := range none {
		if impl.WordOk(n) {
			t.Errorf("%d is no word", n)
		}
	}
	for _, n := range manyNumbers() {
		if impl.WordOk(n) != (n >= leastWord && n <= greatestWord) {
			t.Errorf("WordOk of %d is %v", n, impl.WordOk(n))
		}
	}
}

func TestWrapOfAWordIsTheWord(t *testing.T) {
	for _, n := range edgeWords {
		if got := impl.Wrap(n); got != n {
			t.Errorf("Wrap of the word %d is %d", n, got)
		}
	}
}

func TestWrapGoesRoundAtTheEnds(t *testing.T) {
	for _, is := range [][2]int64{
		{greatestWord + 1, leastWord},
		{leastWord - 1, greatestWord},
		{greatestWord + 2, leastWord + 1},
		{leastWord - 2, greatestWord - 1},
		{4294967295, -1},
		{4294967296, 0},
		{4294967301, 5},
		{-4294967295, 1},
		{-4294967296, 0},
		{-4294967301, -5},
		{math.MaxInt64, -1},
		{math.MaxInt64 - greatestWord, leastWord},
		{math.MinInt64, 0},
		{math.MinInt64 + 1, 1},
		{math.MinInt64 + greatestWord + 1, leastWord},
	} {
		if got := impl.Wrap(is[0]); got != is[1] {
			t.Errorf("Wrap of %d is %d, not %d", is[0], got, is[1])
		}
	}
}

func TestWrapIsAWordByAMultipleOfTheRound(t *testing.T) {
	for _, n := range manyNumbers() {
		got := impl.Wrap(n)
		if got < leastWord || got > greatestWord || !impl.WordOk(got) {
			t.Errorf("Wrap of %d is %d, which is no word", n, got)
		}
		apart := new(big.Int).Sub(big.NewInt(n), big.NewInt(got))
		if apart.Mod(apart, big.NewInt(1<<32)).Sign() != 0 {
			t.Errorf("Wrap of %d is %d, which differs by no multiple of 2^32", n, got)
		}
		if impl.Wrap(got) != got {
			t.Errorf("Wrap of the word %d is %d", got, impl.Wrap(got))
		}
	}
}

func TestDoneOrdinary(t *testing.T) {
	mustBeDone(t, impl.NdAdd, 3, 4, 7)
	mustBeDone(t, impl.NdAdd, 3, -4, -1)
	mustBeDone(t, impl.NdSub, 3, 4, -1)
	mustBeDone(t, impl.NdSub, 3, -4, 7)
	mustBeDone(t, impl.NdMul, 3, -4, -12)
	mustBeDone(t, impl.NdMul, -3, -4, 12)
	mustBeDone(t, impl.NdMul, 0, leastWord, 0)
	mustBeDone(t, impl.NdDiv, 12, 4, 3)
	mustBeDone(t, impl.NdDiv, 0, -4, 0)
	mustBeDone(t, impl.NdDiv, leastWord, greatestWord, -1)
	mustBeDone(t, impl.NdDiv, greatestWord, leastWord, 0)
}

func TestDoneGoesRound(t *testing.T) {
	mustBeDone(t, impl.NdAdd, greatestWord, 1, leastWord)
	mustBeDone(t, impl.NdAdd, 1, greatestWord, leastWord)
	mustBeDone(t, impl.NdAdd, leastWord, -1, greatestWord)
	mustBeDone(t, impl.NdAdd, leastWord, leastWord, 0)
	mustBeDone(t, impl.NdAdd, greatestWord, greatestWord, -2)
	mustBeDone(t, impl.NdSub, leastWord, 1, greatestWord)
	mustBeDone(t, impl.NdSub, greatestWord, -1, leastWord)
	mustBeDone(t, impl.NdSub, 0, leastWord, leastWord)
	mustBeDone(t, impl.NdSub, -1, leastWord, greatestWord)
	mustBeDone(t, impl.NdSub, greatestWord, leastWord, -1)
	mustBeDone(t, impl.NdSub, leastWord, greatestWord, 1)
	mustBeDone(t, impl.NdMul, 65536, 32768, leastWord)
	mustBeDone(t, impl.NdMul, 65536, 65536, 0)
	mustBeDone(t, impl.NdMul, -65536, 32769, greatestWord-65535)
	mustBeDone(t, impl.NdMul, greatestWord, 2, -2)
	mustBeDone(t, impl.NdMul, greatestWord, greatestWord, 1)
	mustBeDone(t, impl.NdMul, leastWord, -1, leastWord)
	mustBeDone(t, impl.NdMul, leastWord, leastWord, 0)
	mustBeDone(t, impl.NdMul, leastWord, greatestWord, leastWord)
	mustBeDone(t, impl.NdDiv, leastWord, -1, leastWord)
}

func TestDoneByRoundsToNought(t *testing.T) {
	mustBeDone(t, impl.NdDiv, 7, 2, 3)
	mustBeDone(t, impl.NdDiv, -7, 2, -3)
	mustBeDone(t, impl.NdDiv, 7, -2, -3)
	mustBeDone(t, impl.NdDiv, -7, -2, 3)
	mustBeDone(t, impl.NdDiv, 1, -2, 0)
	mustBeDone(t, impl.NdDiv, -1, 2, 0)
	mustBeDone(t, impl.NdDiv, leastWord, 2147483647, -1)
	mustBeDone(t, impl.NdDiv, leastWord+1, leastWord, 0)
}

func TestDoneIsAsReckonedWithNumbersOfAnySize(t *testing.T) {
	words := append([]int64{}, edgeWords...)
	for _, n := range manyNumbers()[:400] {
		words = append(words, wrapped(big.NewInt(n)))
	}
	for kind := int64(impl.NdAdd); kind <= impl.NdDiv; kind++ {
		for _, a := range words {
			for _, b := range edgeWords {
				if kind != impl.NdDiv || b != 0 {
					mustBeDone(t, kind, a, b, reckoned(kind, a, b))
				}
				if kind != impl.NdDiv || a != 0 {
					mustBeDone(t, kind, b, a, reckoned(kind, b, a))
				}
			}
		}
	}
}

func TestDoneThereAndBack(t *testing.T) {
	for _, a := range edgeWords {
		for _, b := range edgeWords {
			total, is := impl.Done(impl.NdAdd, a, b)
			if !is {
				t.Fatalf("%d and %d have no sum", a, b)
			}
			mustBeDone(t, impl.NdSub, total, b, a)
			mustBeDone(t, impl.NdSub, total, a, b)
			product, is := impl.Done(impl.NdMul, a, b)
			if !is {
				t.Fatalf("%d and %d have no product", a, b)
			}
			mustBeDone(t, impl.NdMul, b, a, product)
		}
	}
}

func TestDoneByNought(t *testing.T) {
	for _, a := range edgeWords {
		mustNotBeDone(t, impl.NdDiv, a, 0)
		mustBeDone(t, impl.NdAdd, a, 0, a)
		mustBeDone(t, impl.NdSub, a, 0, a)
		mustBeDone(t, impl.NdMul, a, 0, 0)
	}
}

func TestDoneOfWhatIsNoWord(t *testing.T) {
	none := []int64{
		leastWord - 1, greatestWord + 1, 4294967296, -4294967296, 4294967297,
		math.MinInt64, math.MinInt64 + 1, math.MaxInt64 - 1, math.MaxInt64,
	}
	for kind := int64(impl.NdAdd); kind <= impl.NdDiv; kind++ {
		for _, n := range none {
			for _, word := range edgeWords {
				mustNotBeDone(t, kind, n, word)
				mustNotBeDone(t, kind, word, n)
			}
			for _, other := range none {
				mustNotBeDone(t, kind, n, other)
			}
		}
	}
}

func TestDoneOfOtherKinds(t *testing.T) {
	kinds := []int64{
		0, impl.NdNum, impl.NdArg, impl.NdIf, impl.NdCall, 9, 10, -1, -3, -6, 3 + 256, 4 + 65536,
		3 + 1<<32, 4 - 1<<32, 6 + 1<<33, math.MinInt64, math.MinInt64 + 3, math.MaxInt64,
	}
	for _, kind := range kinds {
		for _, a := range edgeWords {
			for _, b := range edgeWords {
				mustNotBeDone(t, kind, a, b)
			}
		}
		mustNotBeDone(t, kind, greatestWord+1, 1)
		mustNotBeDone(t, kind, 1, leastWord-1)
		mustNotBeDone(t, kind, math.MinInt64, math.MinInt64)
	}
}

// The document's numbers of the kinds, which the words hang on.
func TestKindsThatAreDone(t *testing.T) {
	for kind, want := range map[int64]int64{3: 26, 4: 18, 5: 88, 6: 5} {
		mustBeDone(t, kind, 22, 4, want)
	}
}
