package path

import "ropewalk/api"

// counter counts a path's errors in a row.
type counter struct {
	errors    int
	fail, max int // more errors than fail make it Failing, more than max Inactive
}

func (c *counter) state() api.PathState {
	switch {
	case c.errors > c.max:
		return api.Inactive
	case c.errors > c.fail:
		return api.Failing
	}
	return api.Active
}

// count stops behind the error that makes a path Inactive, as more of them can't make it worse. Is the state another one then?
func (c *counter) count() bool { return c.become(min(c.errors, c.max) + 1) }

func (c *counter) forget() bool { return c.become(0) }

func (c *counter) become(errors int) bool {
	was := c.state()
	c.errors = errors
	return c.state() != was
}
