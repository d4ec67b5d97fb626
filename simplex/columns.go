package simplex

import (
	"slices"

	"whetstone/api"
)

// columns are what the columns of a tableau stand for: first the keys of rows, rising, then the slacks of rows. A row's
// slack is how far the row is below 0.
type columns struct {
	keys []string
	rows int
}

func columnsOf(rows ...api.Linear) columns {
	var keys []string
	for _, row := range rows {
		keys = append(keys, row.Keys...)
	}
	slices.Sort(keys)
	return columns{slices.Compact(keys), len(rows)}
}

// ofKey is the column of a key that is there.
func (c columns) ofKey(key string) int {
	at, _ := slices.BinarySearch(c.keys, key)
	return at
}

func (c columns) ofSlack(row int) int {
	return len(c.keys) + row
}

func (c columns) isKey(column int) bool {
	return column < len(c.keys)
}

func (c columns) many() int {
	return len(c.keys) + c.rows
}
