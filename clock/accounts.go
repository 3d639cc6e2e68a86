package clock

import "bybloem/api"

// whole is all of something, in thousandths.
const whole = 1000

func (s Sale) cost() int { return s.Units * s.Price }

// fee returns the fee of the sale, which is rounded down for each sale by itself.
func (a Auction) fee(s Sale) int { return s.cost() * a.Fee / whole }

// accounts returns the accounts of sales that the auction may have.
func (a Auction) accounts(sales []Sale) Accounts {
	x := Accounts{Pays: make([]int, len(a.Buyers))}
	for _, s := range sales {
		x.Pays[s.Buyer] += s.cost()
		x.Fees += a.fee(s)
	}
	for seller := range api.MaxSeller + 1 {
		x.Gets = append(x.Gets, a.gets(seller, sales))
	}
	return x
}

// gets returns what the seller gets of the sales.
func (a Auction) gets(seller int, sales []Sale) int {
	coins := 0
	for _, s := range sales {
		if a.Lots[s.Lot].Seller == seller {
			coins += s.cost() - a.fee(s)
		}
	}
	return coins
}
