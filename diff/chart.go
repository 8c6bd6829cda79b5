package diff

import (
	"slices"

	"stet/api"
)

// most is how many tokens may differ for as many to be kept as can be: the document asks for 400, and more cost little.
const most = 1000

// run is tokens that are the same side by side in both rows: where they begin in each, and how many they are.
type run struct{ a, b, size int }

// moved is a run that is told from places further ahead.
func (r run) moved(a, b int) run { return run{r.a + a, r.b + b, r.size} }

// kept is the runs of tokens that stay, none of them empty.
func kept(a, b []api.Token) []run {
	ahead, behind := ends(a, b)
	endA, endB := len(a)-behind, len(b)-behind
	runs := []run{{0, 0, ahead}}
	// Where too many differ, a way is looked for anew from as far as one came.
	for atA, atB := ahead, ahead; atA < endA && atB < endB; {
		c := chart{a: a[atA:endA], b: b[atB:endB]}
		farthest := c.draw()
		for _, r := range c.back(farthest) {
			runs = append(runs, r.moved(atA, atB))
		}
		passedA, passedB := farthest.passed(c.far(farthest))
		atA, atB = atA+passedA, atB+passedB
	}
	runs = append(runs, run{endA, endB, behind})
	return slices.DeleteFunc(runs, func(r run) bool { return r.size == 0 })
}

// point is a diagonal to which one comes with so many tokens that differ.
type point struct {
	// differ is how many tokens are a's or b's alone; at is how many of them are a's.
	differ, at int
}

// passed is how many tokens of a, and of b, are passed at a point, if so many are of both together.
func (p point) passed(far int) (a, b int) {
	more := p.at - (p.differ - p.at)
	return (far + more) / 2, (far - more) / 2
}

// chart is two rows, and how far one comes in both by ways from their begin. A way may go on behind a row's end, where no token is the same as another one: by that none comes as far as both ends with fewer that differ.
type chart struct {
	a, b []api.Token
	// rows have, by points, how many tokens of both rows together are passed at most.
	rows [][]int
}

// far is how far one comes by way of a point.
func (c *chart) far(p point) int { return c.rows[p.differ][p.at] }

// enter is how far one is when one comes to a point by one more token that differs, and from which point that is; of the first point it is that one.
func (c *chart) enter(p point) (int, point) {
	far, from := 0, p
	for at := max(p.at-1, 0); at <= min(p.at, p.differ-1); at++ {
		side := point{p.differ - 1, at}
		if come := c.far(side) + 1; come > far {
			far, from = come, side
		}
	}
	return far, from
}

// slide is how far one comes from where one is at a point, as long as the tokens are the same.
func (c *chart) slide(p point, far int) int {
	a, b := p.passed(far)
	for a < len(c.a) && b < len(c.b) && c.a[a] == c.b[b] {
		a, b = a+1, b+1
	}
	return a + b
}

// draw draws all points, from few tokens that differ to more, till one comes to both ends, or too many differ; it tells the farthest point of the last ones.
func (c *chart) draw() point {
	var best point
	for differ := range most + 1 {
		row := make([]int, differ+1)
		c.rows = append(c.rows, row)
		best = point{differ, 0}
		for at := range row {
			p := point{differ, at}
			far, _ := c.enter(p)
			row[at] = c.slide(p, far)
			if row[at] > c.far(best) {
				best = p
			}
		}
		if c.far(best) == len(c.a)+len(c.b) {
			break
		}
	}
	return best
}

// back is the runs on the way to a point, gone back from it.
func (c *chart) back(p point) []run {
	var runs []run
	for {
		far, from := c.enter(p)
		a, b := p.passed(far)
		runs = append(runs, run{a, b, (c.far(p) - far) / 2})
		if from == p {
			break
		}
		p = from
	}
	slices.Reverse(runs)
	return runs
}
