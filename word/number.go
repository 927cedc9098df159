package word

import "strconv"

// Number is a number's form.
func Number(n int64) string {
	return strconv.FormatInt(n, 10)
}

// Parse is the number of a form.
func Parse(s string) (int64, bool) {
	n, err := strconv.ParseInt(s, 10, 64)
	// The library reads a + and noughts ahead as well; what Number would write otherwise is no form.
	if err != nil || Number(n) != s {
		return 0, false
	}
	return n, true
}
