package pm

// counter counts a device's steps, and burns its fuse by them. It stands within a device, so that its calls are the device's own.
type counter struct {
	steps  int
	stores int
	armed  bool
	left   int // steps that the fuse still lets through; of no meaning unless armed
}

// Arm: a fuse. A burnt one that is there still, as no crash took it away, is replaced, too: then the device is up.
func (c *counter) Arm(steps int) {
	c.armed = true
	c.left = max(steps, 0)
}

// Down: does it do nothing?
func (c *counter) Down() bool { return c.armed && c.left == 0 }

// Steps: how many it did.
func (c *counter) Steps() int { return c.steps }

// Stores: how many of them.
func (c *counter) Stores() int { return c.stores }

// step counts one, if the device isn't down. It is asked last, behind all that may forbid a step, as one that isn't done must not burn the fuse.
func (c *counter) step() bool {
	if c.Down() {
		return false
	}
	if c.armed {
		c.left--
	}
	c.steps++
	return true
}

// disarm takes the fuse away.
func (c *counter) disarm() {
	c.armed = false
	c.left = 0
}
