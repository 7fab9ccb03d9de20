package frame

// polynomial is that of CRC-32C, its highest power in the lowest bit.
const polynomial = 0x82F63B78

// Check tells the check of bytes.
func Check(b []byte) uint32 {
	check := ^uint32(0)
	for _, c := range b {
		check ^= uint32(c)
		for range 8 {
			out := check & 1
			// What fell out, as 32 bits: all of them, or none.
			check = check>>1 ^ polynomial&-out
		}
	}
	return ^check
}
