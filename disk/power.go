package disk

import "broadsheet/api"

// power is there or gone. As it begins, it is there, and nothing is armed.
type power struct {
	left int // calls until it goes; 0: it goes at none
	gone bool
}

// Arm lets power go at the n-th call from now on; n below 1: at none. Without power there is nothing to arm.
func (d *Disk) Arm(n int) {
	if !d.power.gone {
		d.power.left = max(n, 0)
	}
}

// Down tells whether power is gone.
func (d *Disk) Down() bool { return d.power.gone }

// count counts one call: if it is the one that was armed, power goes.
func (p *power) count() {
	if p.left == 0 {
		return
	}
	p.left--
	p.gone = p.left == 0
}

// told tells what a call answers that nothing but power refuses.
func (p *power) told() api.Errno {
	if p.gone {
		return api.ErrFull
	}
	return api.OK
}
