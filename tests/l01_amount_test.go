package tests

import (
	"math"
	"math/big"
	"testing"

	"loop.example/g00614/impl"
)

const (
	least    = math.MinInt64
	greatest = math.MaxInt64
)

// edges has each limit of chapter 1, what is beside it, and what is far outside.
var edges = []int64{
	least, least + 1, -1000000001, -1000000, -101, -100, -2, -1, 0, 1, 2, 3, 7, 49, 50, 51, 99, 100, 101, 199,
	499999, 500000, 500001, 999999, 1000000, 1000001,
	999999999, 1000000000, 1000000001, math.MaxInt32, 1 << 32, greatest/2 + 1, greatest - 1, greatest,
}

func TestLimitsOfAmounts(t *testing.T) {
	if impl.MaxAmount != 1000000 || impl.MaxShares != 1000000000 {
		t.Fatal(impl.MaxAmount, impl.MaxShares)
	}
}

func TestAmountOk(t *testing.T) {
	for _, n := range []int64{0, 1, 500000, 999999, 1000000} {
		if !impl.AmountOk(n) {
			t.Errorf("AmountOk(%d) is false", n)
		}
	}
	for _, n := range []int64{-1, -1000000, 1000001, 1000000000, least, greatest} {
		if impl.AmountOk(n) {
			t.Errorf("AmountOk(%d) is true", n)
		}
	}
}

func TestSharesOk(t *testing.T) {
	for _, n := range []int64{0, 1, 1000000, 1000001, 999999999, 1000000000} {
		if !impl.SharesOk(n) {
			t.Errorf("SharesOk(%d) is false", n)
		}
	}
	for _, n := range []int64{-1, -1000000000, 1000000001, least, greatest} {
		if impl.SharesOk(n) {
			t.Errorf("SharesOk(%d) is true", n)
		}
	}
}

func TestAdded(t *testing.T) {
	for _, c := range []struct {
		a, b, sum int64
		ok        bool
	}{
		{0, 0, 0, true},
		{2, 3, 5, true},
		{3, 2, 5, true},
		{1000000, 0, 1000000, true},
		{0, 1000000, 1000000, true},
		{999999, 1, 1000000, true},
		{500000, 500000, 1000000, true},
		{500000, 500001, 0, false},
		{1000000, 1, 0, false},
		{1, 1000000, 0, false},
		{1000000, 1000000, 0, false},
		{1000001, 0, 0, false},
		{0, 1000001, 0, false},
		{-1, 1, 0, false},
		{1, -1, 0, false},
		{1000001, -1, 0, false},
		{-1, 1000001, 0, false},
		{0, -1, 0, false},
		{-1, -1, 0, false},
		{least, least, 0, false}, // their sum wraps around to 0
		{greatest, least, 0, false},
		{least, greatest, 0, false},
		{greatest, greatest, 0, false},
		{greatest, 1, 0, false},
		{1, greatest, 0, false},
		{least, 0, 0, false},
		{0, least, 0, false},
	} {
		sum, ok := impl.Added(c.a, c.b)
		if sum != c.sum || ok != c.ok {
			t.Errorf("Added(%d, %d) = %d, %t; want %d, %t", c.a, c.b, sum, ok, c.sum, c.ok)
		}
	}
}

func TestAddedAtEdges(t *testing.T) {
	for _, a := range edges {
		for _, b := range edges {
			exact := new(big.Int).Add(big.NewInt(a), big.NewInt(b))
			want, right := int64(0), false
			if isFrom(0, a, 1000000) && isFrom(0, b, 1000000) && exact.Cmp(big.NewInt(1000000)) <= 0 {
				want, right = exact.Int64(), true
			}
			if sum, ok := impl.Added(a, b); sum != want || ok != right {
				t.Errorf("Added(%d, %d) = %d, %t; want %d, %t", a, b, sum, ok, want, right)
			}
		}
	}
}

func TestDownAndUp(t *testing.T) {
	for _, c := range []struct{ a, b, c, down, up int64 }{
		{7, 5, 2, 17, 18},
		{6, 5, 2, 15, 15},
		{1, 1, 1, 1, 1},
		{1, 1, 2, 0, 1},
		{2, 2, 3, 1, 2},
		{1, 1, 1000000000, 0, 1},
		{0, 5, 3, 0, 0},
		{5, 0, 3, 0, 0},
		{0, 0, 1, 0, 0},
		{0, 1000000000, 1000000000, 0, 0},
		{1000000000, 1000000000, 1, 1000000000000000000, 1000000000000000000},
		{1000000000, 1000000000, 1000000000, 1000000000, 1000000000},
		{1000000000, 1000000000, 999999999, 1000000001, 1000000002},
		{999999999, 999999999, 1000000000, 999999998, 999999999},
		{1000000000, 1000000000, 3, 333333333333333333, 333333333333333334},
		{1000000001, 1, 1, -1, -1},
		{1, 1000000001, 1, -1, -1},
		{1, 1, 1000000001, -1, -1},
		{-1, 1, 1, -1, -1},
		{1, -1, 1, -1, -1},
		{1, 1, 0, -1, -1},
		{0, 0, 0, -1, -1},
		{1, 1, -1, -1, -1},
		{-1, -1, 1, -1, -1},
		{0, 1000000001, 1, -1, -1},
		{-1, 0, 1, -1, -1},
		{greatest, 1, 1, -1, -1},
		{1, greatest, 1, -1, -1},
		{1, 1, greatest, -1, -1},
		{least, 1, 1, -1, -1},
		{1, least, 1, -1, -1},
		{1, 1, least, -1, -1},
		{least, 1, -1, -1, -1}, // the one quotient that int64 has no room for
		{1 << 32, 1 << 32, 1, -1, -1},
		{greatest, greatest, greatest, -1, -1},
		{least, least, least, -1, -1},
	} {
		if n := impl.Down(c.a, c.b, c.c); n != c.down {
			t.Errorf("Down(%d, %d, %d) = %d; want %d", c.a, c.b, c.c, n, c.down)
		}
		if n := impl.Up(c.a, c.b, c.c); n != c.up {
			t.Errorf("Up(%d, %d, %d) = %d; want %d", c.a, c.b, c.c, n, c.up)
		}
	}
}

func TestDownAndUpKeepPromise1(t *testing.T) {
	for a := int64(0); a <= 24; a++ {
		for b := int64(0); b <= 24; b++ {
			for c := int64(1); c <= 24; c++ {
				checkRounding(t, a, b, c)
			}
		}
	}
	for _, a := range edges {
		for _, b := range edges {
			for _, c := range edges {
				if isFrom(0, a, 1000000000) && isFrom(0, b, 1000000000) && isFrom(1, c, 1000000000) {
					checkRounding(t, a, b, c)
				} else if down, up := impl.Down(a, b, c), impl.Up(a, b, c); down != -1 || up != -1 {
					t.Errorf("of %d, %d, %d Down is %d, Up is %d; want -1 of both", a, b, c, down, up)
				}
			}
		}
	}
}

// checkRounding holds Down and Up against the exact product, which has room for whatever they answer.
func checkRounding(t *testing.T, a, b, c int64) {
	t.Helper()
	down, up := impl.Down(a, b, c), impl.Up(a, b, c)
	exact := new(big.Int).Mul(big.NewInt(a), big.NewInt(b))
	below := new(big.Int).Mul(big.NewInt(down), big.NewInt(c))
	above := new(big.Int).Mul(big.NewInt(up), big.NewInt(c))
	if below.Cmp(exact) > 0 || above.Cmp(exact) < 0 || up-down < 0 || up-down > 1 {
		t.Errorf("of %d, %d, %d Down is %d, Up is %d", a, b, c, down, up)
	}
	if whole := new(big.Int).Rem(exact, big.NewInt(c)).Sign() == 0; whole != (down == up) {
		t.Errorf("of %d, %d, %d Down is %d, Up is %d; something left over: %t", a, b, c, down, up, !whole)
	}
}

func TestPartOf(t *testing.T) {
	for _, c := range []struct{ n, percent, part int64 }{
		{199, 50, 99},
		{200, 50, 100},
		{1, 99, 0},
		{1, 100, 1},
		{99, 1, 0},
		{100, 1, 1},
		{101, 1, 1},
		{0, 0, 0},
		{0, 100, 0},
		{1000000, 0, 0},
		{1000000, 1, 10000},
		{999999, 99, 989999},
		{1000000, 100, 1000000},
		{1000001, 0, -1},
		{1000001, 50, -1},
		{1000000000, 1, -1},
		{1, 101, -1},
		{0, 101, -1},
		{1, -1, -1},
		{-1, 1, -1},
		{-1, 0, -1},
		{-1, -1, -1},
		{greatest, 50, -1},
		{least, 50, -1},
		{50, greatest, -1},
		{50, least, -1},
		{greatest, greatest, -1},
		{least, least, -1},
	} {
		if n := impl.PartOf(c.n, c.percent); n != c.part {
			t.Errorf("PartOf(%d, %d) = %d; want %d", c.n, c.percent, n, c.part)
		}
	}
}

func TestPartOfIsDown(t *testing.T) {
	for _, n := range edges {
		for percent := int64(-3); percent <= 103; percent++ {
			want := int64(-1)
			if isFrom(0, n, 1000000) && isFrom(0, percent, 100) {
				want = n * percent / 100
			}
			if part := impl.PartOf(n, percent); part != want {
				t.Errorf("PartOf(%d, %d) = %d; want %d", n, percent, part, want)
			}
		}
	}
}

func isFrom(low, n, high int64) bool { return low <= n && n <= high }
