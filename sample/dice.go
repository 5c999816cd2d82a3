// Package sample: trees, and what is none, for the tests of the layers; no layer calls it.
package sample

// Dice tells numbers that have nothing to do with each other, and the same ones each time.
type Dice uint64

// Next tells a number of 64 bits.
func (d *Dice) Next() uint64 {
	*d += 0x9e3779b97f4a7c15
	z := uint64(*d)
	z = (z ^ z>>30) * 0xbf58476d1ce4e5b9
	z = (z ^ z>>27) * 0x94d049bb133111eb
	return z ^ z>>31
}

// Below tells a number from 0 to n - 1.
func (d *Dice) Below(n int) int { return int(d.Next() % uint64(n)) }
