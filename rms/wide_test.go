package rms

import (
	"math"
	"math/big"
	"math/rand"
	"testing"

	"slotwright/api"
)

// edges are words at which a carry arises or does not.
var edges = []uint64{0, 1, 2, 3, 1<<32 - 1, 1 << 32, 1<<63 - 1, 1 << 63, 1<<63 + 1, math.MaxUint64 - 1, math.MaxUint64}

// someWide returns a number of up to four words, some of them at an edge.
func someWide(r *rand.Rand) wide {
	a := wide{}
	for k := range r.Intn(len(a) + 1) {
		a[k] = r.Uint64() >> r.Intn(64)
		if r.Intn(2) == 0 {
			a[k] = edges[r.Intn(len(edges))]
		}
	}
	return a
}

// someFactor returns a word that is not 0.
func someFactor(r *rand.Rand) uint64 {
	if r.Intn(2) == 0 {
		return edges[1+r.Intn(len(edges)-1)]
	}
	return 1 + r.Uint64()>>(1+r.Intn(63))
}

// text returns a number to base 10.
func (a wide) text() string { return a.large().String() }

// large returns a number as one of package big.
func (a wide) large() *big.Int {
	n := new(big.Int)
	for k := range a {
		word := new(big.Int).SetUint64(a[len(a)-1-k])
		n.Lsh(n, 64).Add(n, word)
	}
	return n
}

// cut returns what 256 bits hold of a number.
func cut(n *big.Int) *big.Int {
	return n.Mod(n, new(big.Int).Lsh(big.NewInt(1), 256))
}

// T1: the arithmetic on 256 bits, against package big.
func TestWide(t *testing.T) {
	r := rand.New(rand.NewSource(4))
	for range 50000 {
		a, b, by := someWide(r), someWide(r), someFactor(r)
		factor := new(big.Int).SetUint64(by)
		if got, want := a.plus(b), cut(new(big.Int).Add(a.large(), b.large())); got.large().Cmp(want) != 0 {
			t.Fatalf("%v + %v = %v; want %v", a.text(), b.text(), got.text(), want)
		}
		if got, want := a.times(by), cut(new(big.Int).Mul(a.large(), factor)); got.large().Cmp(want) != 0 {
			t.Fatalf("%v * %d = %v; want %v", a.text(), by, got.text(), want)
		}
		want, rest := new(big.Int).DivMod(a.large(), factor, new(big.Int))
		if got, gotRest := a.over(by); got.large().Cmp(want) != 0 || gotRest != rest.Uint64() {
			t.Fatalf("%v / %d = %v, %d; want %v, %v", a.text(), by, got.text(), gotRest, want, rest)
		}
		if got, want := a.common(by), new(big.Int).GCD(nil, nil, a.large(), factor); got != want.Uint64() {
			t.Fatalf("%v and %d have %d in common; want %v", a.text(), by, got, want)
		}
	}
}

// T1: numbers that differ in one word only, or not at all, are in the right order.
func TestExceeds(t *testing.T) {
	r := rand.New(rand.NewSource(5))
	for range 20000 {
		a := someWide(r)
		b := a
		if r.Intn(4) > 0 {
			b[r.Intn(len(b))] = edges[r.Intn(len(edges))]
		}
		if r.Intn(4) == 0 {
			b = someWide(r)
		}
		if got, want := a.exceeds(b), a.large().Cmp(b.large()) > 0; got != want {
			t.Fatalf("%v > %v is %v", a.text(), b.text(), got)
		}
	}
}

// T1: a number is great if it exceeds 2^63 - 1.
func TestIsGreat(t *testing.T) {
	for _, low := range edges {
		a := wide{low}
		if got, want := a.isGreat(), low > 1<<63-1; got != want {
			t.Errorf("%d is great: %v", low, got)
		}
		if low <= 1<<63-1 && uint64(a.number()) != low {
			t.Errorf("the number of %d is %d", low, a.number())
		}
		for _, high := range []wide{{low, 1}, {low, 0, 1}, {low, 0, 0, 1}, {low, 0, 0, 1 << 63}} {
			if !high.isGreat() {
				t.Errorf("%v is not great", high.text())
			}
		}
	}
}

// T1: the greatest numbers that can occur fit into 256 bits.
func TestWideIsWideEnough(t *testing.T) {
	l := order(nodes, 10000, 10000)
	all := product(l, func(t api.Task) uint64 { return uint64(t.Period + t.Cost) })
	if want := new(big.Int).Exp(big.NewInt(20000), big.NewInt(nodes), nil); all.large().Cmp(want) != 0 {
		t.Errorf("the greatest product is %v; want %v", all.text(), want)
	}
	power := new(big.Int).Exp(big.NewInt(10000), big.NewInt(nodes), nil)
	if got, want := sum(l), power.Mul(power, big.NewInt(nodes)); got.large().Cmp(want) != 0 {
		t.Errorf("the greatest sum is %v; want %v", got.text(), want)
	}
}
