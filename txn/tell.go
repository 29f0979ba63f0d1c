package txn

import (
	"cmp"
	"slices"

	"girder/api"
	"girder/pool"
)

// Pool is the pool.
func (m *Manager) Pool() *pool.Pool {
	if m == nil {
		return nil
	}
	return m.pool
}

// All is all transactions under way, rising.
func (m *Manager) All() []api.TxState {
	if m == nil {
		return nil
	}
	all := make([]api.TxState, 0, len(m.txs))
	for _, t := range m.txs {
		all = append(all, t.TxState)
	}
	slices.SortFunc(all, func(a, b api.TxState) int { return cmp.Compare(a.Tx, b.Tx) })
	return all
}

// State is how a transaction stands.
func (m *Manager) State(n int) (api.TxState, bool) {
	t, e := m.find(n)
	if e != api.OK {
		return api.TxState{}, false
	}
	return t.TxState, true
}

// Done is the transactions that committed here, in commit order.
func (m *Manager) Done() []int {
	if m == nil {
		return nil
	}
	return slices.Clone(m.done)
}

// Coming is the number that the next transaction will have.
func (m *Manager) Coming() int {
	if m == nil {
		return 0
	}
	n := m.next
	// Load may have laid one with a number that is still to come: nobody else may have it.
	for _, taken := m.txs[n]; taken; _, taken = m.txs[n] {
		n++
	}
	return n
}
