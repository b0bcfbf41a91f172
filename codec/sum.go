package codec

const (
	sumRule = 0xEDB88320 // the polynomial, its lowest power in the highest bit
	allBits = 0xFFFFFFFF
)

func Sum(b []byte) uint32 {
	sum := uint32(allBits)
	for _, x := range b {
		sum ^= uint32(x)
		for range 8 {
			low := sum & 1
			sum >>= 1
			if low == 1 {
				sum ^= sumRule
			}
		}
	}
	return sum ^ allBits
}

// withSum is the bytes with their sum behind them.
func withSum(b []byte) []byte {
	sum := Sum(b)
	for range sumBytes {
		b = append(b, byte(sum))
		sum >>= 8
	}
	return b
}

func isSum(b []byte, sum uint32) bool {
	for _, x := range b {
		if x != byte(sum) {
			return false
		}
		sum >>= 8
	}
	return true
}
