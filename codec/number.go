package codec

const (
	groupBits = 7   // bits of a number in a byte
	more      = 128 // stands in a byte behind which its number goes on
	mostBytes = 10  // of a number of 64 bits
)

// folded is 2 n or, below 0, -2 n - 1, so that numbers about 0 have few bytes whichever their sign.
func folded(n int64) uint64 { return uint64(n)<<1 ^ uint64(n>>63) }

func unfolded(u uint64) int64 { return int64(u>>1) ^ -int64(u&1) }
