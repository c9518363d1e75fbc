package deal

import (
	"sortes/api"
	"sortes/equal"
	"sortes/group"
)

// Open returns the share in the box with this index, and true, if the secret number opens it and the share fits d; otherwise the zero share and false.
func Open(secret int, d api.Dealing, index int) (api.Share, bool) {
	if !within(index, len(d.Boxes)) {
		return api.Share{}, false
	}
	return take(shared(secret, d), d, index)
}

// Complain returns the complaint that shows everybody how the box with this index is opened; the zero complaint, if there is no such box, or Point is not a member of the group.
func Complain(secret int, d api.Dealing, index int) api.Complaint {
	if !within(index, len(d.Boxes)) || !group.Member(d.Point) {
		return api.Complaint{}
	}
	return api.Complaint{Index: index, Key: shared(secret, d), Proof: equal.Prove(secret, api.G, d.Point)}
}

// Judge returns 1, if the complaint is right: the box does not open, or its share does not fit; 2, if it is wrong; and 0, if it proves nothing, or d is not in form.
func Judge(keys []int, d api.Dealing, c api.Complaint) int {
	if !within(c.Index, len(keys)) || !Check(d, len(keys)) || !equal.Verify(api.G, keys[c.Index], d.Point, c.Key, c.Proof) {
		return 0
	}
	if _, ok := take(c.Key, d, c.Index); ok {
		return 2
	}
	return 1
}

func within(index, length int) bool {
	return 0 <= index && index < length
}

// shared returns the number that the dealer shares with the owner of a secret number: Point to its power.
func shared(secret int, d api.Dealing) int {
	return power(d.Point, group.Add(secret, 0, api.Q))
}

// take returns the share in the box with this index, which d has, and true, if the number opens it and the share fits; otherwise the zero share and false.
func take(number int, d api.Dealing, index int) (api.Share, bool) {
	y, ok := pad(number, index).open(d.Boxes[index])
	s := api.Share{X: index + 1, Y: y}
	if !ok || !fits(s, d) {
		return api.Share{}, false
	}
	return s, true
}

func fits(s api.Share, d api.Dealing) bool {
	return isExponent(s.Y) && power(api.G, s.Y) == At(d.Commits, s.X)
}
