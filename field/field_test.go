package field_test

import (
	"math"
	"slices"
	"testing"

	"mirador/field"
)

// elements are all there are.
func elements() []byte {
	l := make([]byte, 256)
	for i := range l {
		l[i] = byte(i)
	}
	return l
}

// product is the product by the words of the chapter: that of the polynomials, whole, and then the rest by x^8 + x^4 + x^3 + x + 1.
func product(a, b byte) byte {
	var whole [15]int
	for i := range 8 {
		for j := range 8 {
			whole[i+j] = (whole[i+j] + int(a>>i&1)*int(b>>j&1)) % 2
		}
	}
	for top := 14; top >= 8; top-- {
		if whole[top] == 1 {
			for _, place := range []int{8, 4, 3, 1, 0} {
				whole[top-8+place] = 1 - whole[top-8+place]
			}
		}
	}
	rest := byte(0)
	for i := range 8 {
		rest |= byte(whole[i]) << i
	}
	return rest
}

// inverse is the one element whose product with a is 1, by a search through all of them; 0 of 0.
func inverse(t *testing.T, a byte) byte {
	found := []byte{}
	for _, b := range elements() {
		if product(a, b) == 1 {
			found = append(found, b)
		}
	}
	if a == 0 && len(found) == 0 {
		return 0
	}
	if len(found) != 1 {
		t.Fatalf("%#x has %d inverses", a, len(found))
	}
	return found[0]
}

// order is the least power that is 1, one product after the other; 0 of 0.
func order(a byte) int {
	if a == 0 {
		return 0
	}
	n := 1
	for p := a; p != 1; p = product(p, a) {
		n++
	}
	return n
}

// rest is n's rest by many that is not below 0.
func rest(n, many int) int {
	r := n % many
	if r < 0 {
		r += many
	}
	return r
}

// exponents are the edges of an int and of smaller ones, and powers of 2 on both sides of 0.
func exponents() []int {
	l := []int{
		math.MinInt, math.MinInt + 1, math.MinInt + 2, math.MinInt + 127, math.MinInt + 128, math.MinInt + 129,
		math.MaxInt, math.MaxInt - 1, math.MaxInt - 126, math.MaxInt - 127, math.MaxInt - 128,
		math.MinInt32, math.MinInt32 - 1, math.MaxInt32, math.MaxInt32 + 1, math.MaxUint32, math.MaxUint32 + 1,
	}
	for i := range 63 {
		l = append(l, 1<<i, -(1 << i), 1<<i-1, 1-1<<i)
	}
	return l
}

func TestP4_1_Add(t *testing.T) {
	for _, a := range elements() {
		for _, b := range elements() {
			sum := byte(0)
			for i := range 8 {
				sum |= (a>>i&1 + b>>i&1) % 2 << i
			}
			if got := field.Add(a, b); got != sum {
				t.Fatalf("Add(%#x, %#x) = %#x, not %#x", a, b, got, sum)
			}
		}
		if field.Add(a, 0) != a || field.Add(0, a) != a || field.Add(a, a) != 0 {
			t.Errorf("%#x and 0, or itself", a)
		}
	}
	if got := field.Add(0x57, 0x83); got != 0xd4 {
		t.Errorf("Add(0x57, 0x83) = %#x", got)
	}
}

// TestP4_1_TimesByTable holds the chapter's example, and products that FIPS 197 tells (4.2, 4.2.1, and the columns that are mixed).
func TestP4_1_TimesByTable(t *testing.T) {
	for _, c := range []struct{ a, b, want byte }{
		{87, 131, 193},
		{0x57, 0x83, 0xc1},
		{0x57, 0x13, 0xfe},
		{0x57, 0x02, 0xae},
		{0x57, 0x04, 0x47},
		{0x57, 0x08, 0x8e},
		{0x57, 0x10, 0x07},
		{0x80, 0x02, 0x1b},
		{0xd4, 0x02, 0xb3},
		{0xbf, 0x03, 0xda},
		{0x53, 0xca, 0x01},
		{0xff, 0xff, 0x13},
		{0xff, 0x02, 0xe5},
		{0x40, 0x02, 0x80},
		{0x10, 0x10, 0x1b},
		{0x80, 0x80, 0x9a},
	} {
		if got := field.Times(c.a, c.b); got != c.want {
			t.Errorf("Times(%#x, %#x) = %#x, not %#x", c.a, c.b, got, c.want)
		}
		if got := field.Times(c.b, c.a); got != c.want {
			t.Errorf("Times(%#x, %#x) = %#x, not %#x", c.b, c.a, got, c.want)
		}
	}
}

func TestP4_1_TimesOfAll(t *testing.T) {
	for _, a := range elements() {
		for _, b := range elements() {
			if got, want := field.Times(a, b), product(a, b); got != want {
				t.Fatalf("Times(%#x, %#x) = %#x, not %#x", a, b, got, want)
			}
		}
	}
}

func TestP4_1_TimesNoughtAndOne(t *testing.T) {
	for _, a := range elements() {
		if field.Times(a, 0) != 0 || field.Times(0, a) != 0 {
			t.Errorf("%#x and 0: %#x, %#x", a, field.Times(a, 0), field.Times(0, a))
		}
		if field.Times(a, 1) != a || field.Times(1, a) != a {
			t.Errorf("%#x and 1: %#x, %#x", a, field.Times(a, 1), field.Times(1, a))
		}
	}
}

func TestP4_1_Inverse(t *testing.T) {
	for _, c := range []struct{ a, want byte }{{83, 202}, {202, 83}, {0, 0}, {1, 1}, {2, 0x8d}, {3, 0xf6}, {0x95, 0x8a}, {255, 0x1c}} {
		if got := field.Inverse(c.a); got != c.want {
			t.Errorf("Inverse(%#x) = %#x, not %#x", c.a, got, c.want)
		}
	}
	for _, a := range elements() {
		if got, want := field.Inverse(a), inverse(t, a); got != want {
			t.Errorf("Inverse(%#x) = %#x, not %#x", a, got, want)
		}
		if field.Inverse(field.Inverse(a)) != a {
			t.Errorf("the inverse of the inverse of %#x", a)
		}
		if a != 0 && field.Times(a, field.Inverse(a)) != 1 {
			t.Errorf("%#x and its inverse: no 1", a)
		}
	}
}

func TestP4_2_PowerByTable(t *testing.T) {
	for _, c := range []struct {
		a    byte
		n    int
		want byte
	}{
		{9, 0, 1},
		{0, 0, 1},
		{1, 0, 1},
		{0, 1, 0},
		{0, -1, 0},
		{0, 255, 0},
		{0, -255, 0},
		{0, math.MaxInt, 0},
		{0, math.MinInt, 0},
		{1, math.MaxInt, 1},
		{1, math.MinInt, 1},
		{2, 1, 2},
		{2, 7, 0x80},
		{2, 8, 0x1b},
		{2, 9, 0x36},
		{2, 51, 1},
		{2, -1, 0x8d},
		{3, 2, 5},
		{3, -1, 0xf6},
		{3, 255, 1},
		{3, -255, 1},
		{3, 256, 3},
		{83, -1, 202},
		{83, -2, product(202, 202)},
	} {
		if got := field.Power(c.a, c.n); got != c.want {
			t.Errorf("Power(%#x, %d) = %#x, not %#x", c.a, c.n, got, c.want)
		}
	}
}

// TestP4_2_PowerStepByStep goes from 0 on up by products with the element, and down by products with its inverse.
func TestP4_2_PowerStepByStep(t *testing.T) {
	for _, a := range elements() {
		up, down, back := byte(1), byte(1), inverse(t, a)
		for n := range 600 {
			if got := field.Power(a, n); got != up {
				t.Fatalf("Power(%#x, %d) = %#x, not %#x", a, n, got, up)
			}
			if got := field.Power(a, -n); got != down {
				t.Fatalf("Power(%#x, %d) = %#x, not %#x", a, -n, got, down)
			}
			up, down = product(up, a), product(down, back)
		}
	}
}

// TestP4_2_PowerAtEdges holds far powers against those of the rest by the order, told by products one after the other.
func TestP4_2_PowerAtEdges(t *testing.T) {
	for _, a := range elements()[1:] {
		powers := []byte{1}
		for p := a; p != 1; p = product(p, a) {
			powers = append(powers, p)
		}
		for _, n := range exponents() {
			if got, want := field.Power(a, n), powers[rest(n, len(powers))]; got != want {
				t.Fatalf("Power(%#x, %d) = %#x, not %#x", a, n, got, want)
			}
		}
	}
}

func TestP4_2_PowerOfNought(t *testing.T) {
	for _, n := range append(exponents(), 2, 3, 51, 255, 256, -2, -3, -51, -255, -256) {
		want := byte(0)
		if n == 0 {
			want = 1
		}
		if got := field.Power(0, n); got != want {
			t.Errorf("Power(0, %d) = %#x, not %#x", n, got, want)
		}
	}
}

func TestP4_2_Order(t *testing.T) {
	for _, c := range []struct {
		a    byte
		want int
	}{{0, 0}, {1, 1}, {2, 51}, {3, 255}, {0xbc, 3}, {0xbd, 3}, {0x0c, 5}} {
		if got := field.Order(c.a); got != c.want {
			t.Errorf("Order(%#x) = %d, not %d", c.a, got, c.want)
		}
	}
	for _, a := range elements() {
		if got, want := field.Order(a), order(a); got != want {
			t.Errorf("Order(%#x) = %d, not %d", a, got, want)
		}
	}
}

// TestP4_2_OrderIsLeast holds Order against Power alone.
func TestP4_2_OrderIsLeast(t *testing.T) {
	for _, a := range elements()[1:] {
		many := field.Order(a)
		if field.Power(a, many) != 1 {
			t.Errorf("Power(%#x, %d): no 1", a, many)
		}
		for n := 1; n < many; n++ {
			if field.Power(a, n) == 1 {
				t.Errorf("Power(%#x, %d) is 1, and the order %d", a, n, many)
			}
		}
	}
}

// TestP4_3_OfThree goes through all threes of elements. The products stand in a table, each as Times told it.
func TestP4_3_OfThree(t *testing.T) {
	var times [256][256]byte
	for _, a := range elements() {
		for _, b := range elements() {
			times[a][b] = field.Times(a, b)
		}
	}
	for _, a := range elements() {
		for _, b := range elements() {
			if times[a][b] != times[b][a] {
				t.Fatalf("%#x, %#x: an order is seen", a, b)
			}
			for _, c := range elements() {
				if times[times[a][b]][c] != times[a][times[b][c]] {
					t.Fatalf("%#x, %#x, %#x: an order is seen", a, b, c)
				}
				if times[a][field.Add(b, c)] != field.Add(times[a][b], times[a][c]) {
					t.Fatalf("%#x, %#x, %#x: products do not go over sums", a, b, c)
				}
			}
		}
	}
}

// TestP4_3_OfMore lays five factors in each order, and in each grouping that goes from one side.
func TestP4_3_OfMore(t *testing.T) {
	for _, five := range [][]byte{{2, 3, 0x53, 0x80, 0xff}, {0x57, 0x83, 0x13, 0xca, 0x1b}, {1, 0xbc, 0xbd, 7, 7}, {5, 0, 9, 0xfe, 1}} {
		want := byte(1)
		for _, a := range five {
			want = product(want, a)
		}
		each(five, 0, func(l []byte) {
			left, right := byte(1), byte(1)
			for i := range l {
				left, right = field.Times(left, l[i]), field.Times(l[len(l)-1-i], right)
			}
			if left != want || right != want {
				t.Fatalf("%v: %#x and %#x, not %#x", l, left, right, want)
			}
		})
	}
}

// each tells every order of what stands from a place on.
func each(l []byte, from int, tell func([]byte)) {
	if from == len(l) {
		tell(l)
		return
	}
	for i := from; i < len(l); i++ {
		next := slices.Clone(l)
		next[from], next[i] = next[i], next[from]
		each(next, from+1, tell)
	}
}

func TestP4_3_MultiplesOfOrder(t *testing.T) {
	for _, a := range elements()[1:] {
		many := field.Order(a)
		if many < 1 || 255%many != 0 {
			t.Fatalf("the order %d of %#x does not divide 255", many, a)
		}
		most, least := math.MaxInt/many*many, math.MinInt/many*many
		for _, n := range []int{0, many, -many, 2 * many, -2 * many, 255, -255, 1000 * many, -1000 * many, most, least} {
			if got := field.Power(a, n); got != 1 {
				t.Errorf("Power(%#x, %d) = %#x, and the order is %d", a, n, got, many)
			}
		}
		if field.Power(a, most-1) != field.Inverse(a) || field.Power(a, least+1) != a {
			t.Errorf("%#x: beside the order's multiples", a)
		}
	}
}

// TestP4_3_OrdersCounted counts: of each divisor d of 255 as many elements have it as their order as there are numbers up to d that have no divisor with it.
func TestP4_3_OrdersCounted(t *testing.T) {
	counts := map[int]int{}
	for _, a := range elements() {
		counts[field.Order(a)]++
	}
	want := map[int]int{0: 1, 1: 1, 3: 2, 5: 4, 15: 8, 17: 16, 51: 32, 85: 64, 255: 128}
	for d := range 300 {
		if counts[d] != want[d] {
			t.Errorf("%d elements of the order %d, not %d", counts[d], d, want[d])
		}
	}
}
