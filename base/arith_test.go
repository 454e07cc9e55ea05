package base

import (
	"math/rand"
	"reflect"
	"testing"

	"lazyc/api"
)

const least = -api.MaxInt - 1

func number(n int) api.Value { return api.Value{Op: api.VInt, N: n} }

func bad(exc api.Exc) api.Value {
	return api.Value{Op: api.VBad, Set: api.ExcSet{List: []api.Exc{exc}}}
}

func checkArith(t *testing.T, name string, a, b int, want api.Value) {
	t.Helper()
	if got, ok := Arith(name, a, b); !reflect.DeepEqual(got, want) || !ok {
		t.Errorf("Arith(%s, %d, %d) = %v, %v; want %v", name, a, b, got, ok, want)
	}
}

// P5.6: integers, with 64 bits that wrap around.
func TestArithIntegers(t *testing.T) {
	for _, test := range []struct {
		name       string
		a, b, want int
	}{
		{"intAdd", 2, 3, 5}, {"intAdd", api.MaxInt, 1, least}, {"intAdd", least, -1, api.MaxInt}, {"intAdd", -2, 3, 1},
		{"intSub", 2, 3, -1}, {"intSub", least, 1, api.MaxInt}, {"intSub", 0, least, least},
		{"intMul", -4, 3, -12}, {"intMul", api.MaxInt, 2, -2}, {"intMul", least, -1, least}, {"intMul", 1 << 32, 1 << 32, 0},
		{"intQuot", 7, 2, 3}, {"intQuot", -7, 2, -3}, {"intQuot", 7, -2, -3}, {"intQuot", -7, -2, 3}, {"intQuot", least, -1, least}, {"intQuot", 0, 5, 0},
		{"intRem", 7, 2, 1}, {"intRem", -7, 2, -1}, {"intRem", 7, -2, 1}, {"intRem", -7, -2, -1}, {"intRem", least, -1, 0}, {"intRem", 6, 3, 0},
		{"intNeg", 5, 0, -5}, {"intNeg", -5, 9, 5}, {"intNeg", least, 1, least}, {"intNeg", 0, 0, 0},
		{"ord", 0, 0, 0}, {"ord", 65, 77, 65}, {"ord", 255, -1, 255},
	} {
		checkArith(t, test.name, test.a, test.b, number(test.want))
	}
}

// P5.6: truth values, characters and exceptions.
func TestArithOthers(t *testing.T) {
	for _, test := range []struct {
		name string
		a, b int
		want string
	}{
		{"intEq", 2, 2, "True"}, {"intEq", 2, 3, "False"}, {"intEq", least, api.MaxInt, "False"},
		{"intLt", 2, 3, "True"}, {"intLt", 3, 3, "False"}, {"intLt", 4, 3, "False"}, {"intLt", least, api.MaxInt, "True"},
		{"intLe", 2, 3, "True"}, {"intLe", 3, 3, "True"}, {"intLe", 4, 3, "False"}, {"intLe", api.MaxInt, least, "False"},
	} {
		checkArith(t, test.name, test.a, test.b, api.Value{Op: api.VCon, Name: test.want})
	}
	for _, n := range []int{0, 10, 65, 255} {
		checkArith(t, "chr", n, 7, api.Value{Op: api.VChar, N: n})
	}
	for _, n := range []int{-1, 256, 300, least, api.MaxInt} {
		checkArith(t, "chr", n, 0, bad(api.Exc{Con: "Failure", N: n}))
	}
	for _, n := range []int{0, 1, -1, least, api.MaxInt} {
		checkArith(t, "intQuot", n, 0, bad(api.Exc{Con: "DivByZero"}))
		checkArith(t, "intRem", n, 0, bad(api.Exc{Con: "DivByZero"}))
	}
}

// P5.6: what Arith does not perform.
func TestArithNone(t *testing.T) {
	check := func(name string, a int) {
		t.Helper()
		if got, ok := Arith(name, a, 1); !reflect.DeepEqual(got, api.Value{}) || ok {
			t.Errorf("Arith(%s, %d, 1) = %v, %v", name, a, got, ok)
		}
	}
	for number, prim := range Prims() {
		if number > 10 {
			check(prim.Name, 1)
		}
	}
	for _, name := range []string{"", "intDiv", "IntAdd", "intAdd ", "+", "True"} {
		check(name, 1)
	}
	for _, n := range []int{-1, 256, least, api.MaxInt} {
		check("ord", n)
	}
}

// P5.7: quotient and remainder belong together.
func TestQuotRem(t *testing.T) {
	random := rand.New(rand.NewSource(1))
	ints := []int{0, 1, -1, 2, -2, 7, -7, least, least + 1, api.MaxInt, api.MaxInt - 1}
	for range 300 {
		ints = append(ints, int(random.Uint64())>>random.Intn(64))
	}
	for _, a := range ints {
		for _, b := range ints {
			if b == 0 {
				continue
			}
			quot, _ := Arith("intQuot", a, b)
			rem, _ := Arith("intRem", a, b)
			product, _ := Arith("intMul", quot.N, b)
			if sum, _ := Arith("intAdd", product.N, rem.N); sum.N != a {
				t.Fatalf("%d and %d: the quotient %d and the remainder %d", a, b, quot.N, rem.N)
			}
			if rem.N != 0 && (rem.N < 0) != (a < 0) {
				t.Fatalf("%d and %d: the remainder %d", a, b, rem.N)
			}
		}
	}
}
