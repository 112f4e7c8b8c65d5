package wots

import "moidore/api"

// own is how many digits are the message's own; the others tell what these leave.
const own = api.Chains - 3

// digits is the digits of a message. The last ones fall as the others rise, so that no message's digits are all at or above another one's.
func digits(message api.Hash) [api.Chains]byte {
	var d [api.Chains]byte
	left := 0
	for i := range own {
		b := message[i/2]
		if i%2 == 0 {
			b >>= 4
		}
		d[i] = b & last
		left += last - int(d[i])
	}
	d[own], d[own+1], d[own+2] = byte(left>>8), byte(left>>4&last), byte(left&last)
	return d
}
