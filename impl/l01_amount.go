package impl

const MaxAmount = 1000000
const MaxShares = 1000000000

// maxPercent is the whole of which a percent is a part.
const maxPercent = 100

// amount counts coins or shares. A limit is one too, so that its method value
// serves as the question whether a number is accepted.
type amount int64

func (limit amount) within(n int64) bool {
	return n >= 0 && n <= int64(limit)
}

// The divisor is at least 1: scaled refuses 0, which would panic here.
func (n amount) overDown(divisor amount) amount {
	return n / divisor
}

func (n amount) overUp(divisor amount) amount {
	if n%divisor != 0 {
		return n/divisor + 1
	}
	return n / divisor
}

func allOf(ok func(int64) bool, numbers ...int64) bool {
	for _, n := range numbers {
		if !ok(n) {
			return false
		}
	}
	return true
}

// scaled multiplies only after the check: MaxShares by itself is within int64,
// so the product is exact and rounding is left to over alone.
func scaled(a int64, b int64, c int64, over func(amount, amount) amount) int64 {
	if !allOf(amount(MaxShares).within, a, b, c) || c == 0 {
		return -1
	}
	return int64(over(amount(a)*amount(b), amount(c)))
}

func AmountOk(n int64) bool {
	return amount(MaxAmount).within(n)
}

func SharesOk(n int64) bool {
	return amount(MaxShares).within(n)
}

func Added(a int64, b int64) (int64, bool) {
	// The sum can wrap around only where a or b is refused anyway.
	if !allOf(amount(MaxAmount).within, a, b, a+b) {
		return 0, false
	}
	return a + b, true
}

func Down(a int64, b int64, c int64) int64 {
	return scaled(a, b, c, amount.overDown)
}

func Up(a int64, b int64, c int64) int64 {
	return scaled(a, b, c, amount.overUp)
}

func PartOf(n int64, percent int64) int64 {
	if !AmountOk(n) || !amount(maxPercent).within(percent) {
		return -1
	}
	return Down(n, percent, maxPercent)
}
