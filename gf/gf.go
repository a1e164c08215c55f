// Package gf reckons with the 256 elements of a field: polynomials over 0 and 1,
// bit i for x to the i, modulo x^8 + x^4 + x^3 + x^2 + 1.
package gf

// tail is what x^8 is in the field: x^4 + x^3 + x^2 + 1.
const tail = 0x1d

// order is how many elements other than 0 there are: each of them to the order is 1.
const order = 255

// Add answers the sum of a and b.
func Add(a, b byte) byte { return a ^ b }

// Mul answers the product of a and b.
func Mul(a, b byte) byte {
	var product byte
	for range 8 {
		if b&1 == 1 {
			product = Add(product, a)
		}
		a = timesX(a)
		b >>= 1
	}
	return product
}

// timesX answers x times a.
func timesX(a byte) byte {
	if a&0x80 == 0 {
		return a << 1
	}
	return a<<1 ^ tail
}

// Inv answers the b of which Mul(a, b) is 1; of 0 it answers 0.
func Inv(a byte) byte { return Pow(a, order-1) }

// Div answers Mul(a, Inv(b)).
func Div(a, b byte) byte { return Mul(a, Inv(b)) }

// Pow answers a to the n; n below 0: Inv(a) to the -n.
func Pow(a byte, n int) byte {
	if n == 0 {
		return 1
	}
	if a == 0 {
		return 0
	}
	return raise(a, exponent(n))
}

// exponent answers the number from 0 to 254 that does to an element other than 0 what n does.
// It never reckons -n, which the least int does not have.
func exponent(n int) int {
	n %= order
	if n < 0 {
		n += order
	}
	return n
}

// raise answers a to the n, n not below 0, by squaring.
func raise(a byte, n int) byte {
	power := byte(1)
	for ; n > 0; n >>= 1 {
		if n&1 == 1 {
			power = Mul(power, a)
		}
		a = Mul(a, a)
	}
	return power
}
