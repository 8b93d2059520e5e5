package graph

import "watershed/api"

// Sum tells what a node does to a time; ErrArg, if there may be no such node.
func Sum(n api.Node) (api.Summary, api.Errno) {
	if !mayBe(n) {
		return api.Summary{}, api.ErrArg
	}
	switch n.Kind {
	case api.NEnter:
		return api.Summary{Keep: n.Deep, Push: []int{0}}, api.OK
	case api.NLeave:
		return api.Summary{Keep: n.Deep - 1}, api.OK
	case api.NFeed:
		return api.Summary{Keep: n.Deep, Add: 1}, api.OK
	}
	return api.Summary{Keep: n.Deep}, api.OK
}

// mayBe tells if there may be such a node: of a kind, and with times that have neither too few nor too many numbers ahead of it
// and behind it.
func mayBe(n api.Node) bool {
	least, most := 1, api.MaxDeep
	switch n.Kind {
	case api.NOne, api.NTwo:
	case api.NInput:
		most = 1
	case api.NEnter:
		most--
	case api.NLeave, api.NFeed:
		least++
	default:
		return false
	}
	return n.Deep >= least && n.Deep <= most
}

// ports is how many ports a node has that may be.
func ports(n api.Node) int {
	switch n.Kind {
	case api.NInput:
		return 0
	case api.NTwo:
		return 2
	}
	return 1
}

// makes is how many numbers the times have that go from a node that may be.
func makes(n api.Node) int {
	s, _ := Sum(n)
	return s.Keep + len(s.Push)
}
