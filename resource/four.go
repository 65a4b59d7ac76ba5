package resource

import "berthmaster/api"

// kinds is how many kinds of amounts there are.
const kinds = 4

// amounts are api's, which have no methods.
type amounts api.Amounts

// four are amounts as an array, in the order of their text.
type four [kinds]int64

// four answers the amounts as an array.
func (a amounts) four() four {
	return four{a.CPU, a.RAM, a.Disk, a.Ports}
}

// amounts answers what the array tells.
func (f four) amounts() api.Amounts {
	return api.Amounts{CPU: f[0], RAM: f[1], Disk: f[2], Ports: f[3]}
}

// mayNot answers whether amounts may not be.
func mayNot(a api.Amounts) bool {
	for _, x := range amounts(a).four() {
		if x < leastAmount || x > api.MaxAmount {
			return true
		}
	}
	return false
}
