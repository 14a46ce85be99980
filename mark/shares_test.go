package mark

import (
	"math"
	"math/big"
	"math/rand/v2"
	"slices"
	"testing"

	"stadion/api"
)

func wantList(t *testing.T, what string, got []int, e api.Errno, wanted []int, wantedError api.Errno) {
	t.Helper()
	if !slices.Equal(got, wanted) || e != wantedError {
		t.Errorf("%s: got %v and %v, want %v and %v", what, got, e, wanted, wantedError)
	}
}

func TestShares(t *testing.T) {
	most := slices.Repeat([]int{api.MaxNumber}, api.MaxList)
	for _, c := range []struct {
		what    string
		total   int
		weights []int
		want    []int
		e       api.Errno
	}{
		{"equal remainders", 10, []int{1, 1, 1}, []int{4, 3, 3}, api.OK},
		{"nothing left", 9, []int{1, 1, 1}, []int{3, 3, 3}, api.OK},
		{"the larger remainder later", 7, []int{3, 5, 4}, []int{2, 3, 2}, api.OK},
		{"the first one has the largest remainder", 10, []int{10, 27, 28}, []int{2, 4, 4}, api.OK},
		{"a weight of 0", 5, []int{0, 1, 0, 1}, []int{0, 3, 0, 2}, api.OK},
		{"no total", 0, []int{1, 2}, []int{0, 0}, api.OK},
		{"one weight", api.MaxNumber, []int{api.MaxNumber}, []int{api.MaxNumber}, api.OK},
		{"too small a total ahead of the weights", -1, nil, nil, api.ErrRange},
		{"too large a total", api.MaxNumber + 1, []int{1}, nil, api.ErrRange},
		{"no weights", 1, nil, nil, api.ErrEmpty},
		{"too many weights ahead of their range", 1, slices.Repeat([]int{-1}, api.MaxList+1), nil, api.ErrMany},
		{"a negative weight", 1, []int{1, -1}, nil, api.ErrRange},
		{"a weight that is too large", 1, []int{0, api.MaxNumber + 1}, nil, api.ErrRange},
		{"no weight above 0", 1, []int{0, 0}, nil, api.ErrZero},
	} {
		got, e := Shares(c.total, c.weights)
		wantList(t, c.what, got, e, c.want, c.e)
	}
	got, e := Shares(api.MaxNumber, most)
	if sum(got) != api.MaxNumber || e != api.OK || got[0] != 3906250 || got[254] != 3906250 || got[255] != 3906249 {
		t.Errorf("the largest weights: got %v and %v", got, e)
	}
}

func sum(list []int) int {
	total := 0
	for _, n := range list {
		total += n
	}
	return total
}

func TestSharesAddUpAndAreNearlyExact(t *testing.T) {
	r := rand.New(rand.NewPCG(5, 6))
	for range 500 {
		total := r.IntN(1 + []int{5, 100, api.MaxNumber}[r.IntN(3)])
		weights := make([]int, 1+r.IntN(20))
		for i := range weights {
			weights[i] = r.IntN(1 + []int{1, 10, api.MaxNumber}[r.IntN(3)])
		}
		weights[0]++
		kept := slices.Clone(weights)
		shares, e := Shares(total, weights)
		if e != api.OK || sum(shares) != total || !slices.Equal(kept, weights) {
			t.Fatalf("Shares(%d, %v): got %v and %v", total, kept, shares, e)
		}
		for i, s := range shares {
			exact := big.NewRat(int64(total*weights[i]), int64(sum(weights)))
			apart := new(big.Rat).Sub(exact, big.NewRat(int64(s), 1))
			if apart.Abs(apart).Cmp(big.NewRat(1, 1)) >= 0 {
				t.Fatalf("Shares(%d, %v): got %v", total, weights, shares)
			}
		}
	}
}

func TestDraw(t *testing.T) {
	for _, c := range []struct {
		what   string
		key, n int
		want   []int
		e      api.Errno
	}{
		{"the example", 1, 3, []int{2, 1, 0}, api.OK},
		{"no elements", 1, 0, nil, api.OK},
		{"one element", 2147483646, 1, []int{0}, api.OK},
		{"the greatest key", 2147483646, 2, []int{1, 0}, api.OK}, // -69621 modulo 2147483647 is even
		{"a key of 0", 0, 3, nil, api.ErrRange}, {"a negative key", -1, 3, nil, api.ErrRange},
		{"a key that is too large", 2147483647, 3, nil, api.ErrRange},
		{"a negative number", 1, -1, nil, api.ErrRange}, {"too many elements", 1, 257, nil, api.ErrRange},
		{"extremes", math.MaxInt, math.MinInt, nil, api.ErrRange},
	} {
		got, e := Draw(c.key, c.n)
		wantList(t, c.what, got, e, c.want, c.e)
	}
}

// drawByHand is the definition with numbers of any size.
func drawByHand(key, n int) []int {
	order := make([]int, n)
	for i := range order {
		order[i] = i
	}
	x := big.NewInt(int64(key))
	for i := n - 1; i > 0; i-- {
		x.Mul(x, big.NewInt(69621)).Mod(x, big.NewInt(2147483647))
		place := int(new(big.Int).Mod(x, big.NewInt(int64(i+1))).Int64())
		order[i], order[place] = order[place], order[i]
	}
	return order
}

func TestDrawHasEachElementOnce(t *testing.T) {
	for _, key := range []int{1, 2, 7, 100, 123456789, 2147483645, 2147483646} {
		for _, n := range []int{1, 2, 3, 4, 5, 8, 10, 100, 255, 256} {
			order, e := Draw(key, n)
			wantList(t, "Draw", order, e, drawByHand(key, n), api.OK)
			slices.Sort(order)
			for i, element := range order {
				if i != element {
					t.Fatalf("Draw(%d, %d) does not have %d once", key, n, i)
				}
			}
		}
	}
}
