package label

// single returns the range that has just the number.
func single(n int) Range { return Range{Lo: n, Hi: n} }

// with returns the range, as far extended as it needs to have the number.
func (r Range) with(n int) Range { return Range{Lo: min(r.Lo, n), Hi: max(r.Hi, n)} }

func (r Range) has(n int) bool { return r.Lo <= n && n <= r.Hi }

func (r Range) least() int { return r.Lo }

func (r Range) most() int { return r.Hi }

func (r Range) width() int { return r.Hi - r.Lo }
