package block

// plane is all cells of one Half of a block: bit 8b + a is 1, if the one at (a, b) lives.
type plane uint64

// planes are its cells, by their Half.
func (x Block) planes() [halves]plane {
	var planes [halves]plane
	for b, row := range x {
		for half := range planes {
			planes[half] |= plane(squeeze(row>>half)) << (Side * b)
		}
	}
	return planes
}

// together is the block of the cells of each Half.
func together(planes [halves]plane) Block {
	var x Block
	for b := range x {
		for half, p := range planes {
			x[b] |= spread(uint8(p>>(Side*b))) << half
		}
	}
	return x
}

// squeeze is every second bit, from the lowest one on, without those between.
func squeeze(row uint16) uint8 {
	row &= 0x5555
	row = (row | row>>1) & 0x3333
	row = (row | row>>2) & 0x0f0f
	return uint8(row | row>>4)
}

// spread is the opposite of squeeze, with noughts between.
func spread(bits uint8) uint16 {
	row := uint16(bits)
	row = (row | row<<4) & 0x0f0f
	row = (row | row<<2) & 0x3333
	return (row | row<<1) & 0x5555
}
