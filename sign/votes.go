package sign

import "sortes/api"

// Vote returns a vote of who for the text, signed with a secret number.
func Vote(who, secret int, text string) api.Vote {
	return api.Vote{Who: who, Text: text, Sig: Sign(secret, text)}
}

// Weight returns the sum of the weights of the members for whom there is a vote for the text that verifies. Each Id counts once.
func Weight(l []api.Member, v []api.Vote, text string) int {
	members := firsts(l)
	voted := map[int]bool{}
	total := 0
	for _, vote := range v {
		m, known := members[vote.Who]
		// Whoever has voted is looked for ahead of the signature, which takes much longer to verify.
		if !known || voted[m.Id] || vote.Text != text || !Verify(m.Public, text, vote.Sig) {
			continue
		}
		voted[m.Id] = true
		total += counted(m.Weight)
	}
	return total
}

// firsts returns for each Id the first member that has it.
func firsts(l []api.Member) map[int]api.Member {
	members := map[int]api.Member{}
	for _, m := range l {
		if _, ok := members[m.Id]; !ok {
			members[m.Id] = m
		}
	}
	return members
}

// counted returns the weight, or 0 for one that no member may have.
func counted(weight int) int {
	if weight < 1 || weight > api.MaxWeight {
		return 0
	}
	return weight
}
