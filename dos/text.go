package dos

// textSize: how many bytes the text of a time has.
const textSize = len("1980-01-31 23:59:58")

// Text of a time.
func (t Time) Text() string {
	if !t.Good() {
		return ""
	}
	return digits(t.Year, 4) + "-" + digits(t.Month, 2) + "-" + digits(t.Day, 2) + " " +
		digits(t.Hour, 2) + ":" + digits(t.Minute, 2) + ":" + digits(t.Second, 2)
}

// digits: the last digits of a number that isn't below 0.
func digits(n, size int) string {
	s := make([]byte, size)
	for i := range size {
		s[size-1-i] = '0' + byte(n%10)
		n /= 10
	}
	return string(s)
}

// Parse a text.
func Parse(s string) (Time, bool) {
	if len(s) != textSize {
		return Time{}, false
	}
	t := Time{
		Year:   number(s[0:4]),
		Month:  number(s[5:7]),
		Day:    number(s[8:10]),
		Hour:   number(s[11:13]),
		Minute: number(s[14:16]),
		Second: number(s[17:19]),
	}
	// What number made of other signs than digits, and what stands between the numbers, shows here.
	if t.Text() != s {
		return Time{}, false
	}
	return t, true
}

// number of digits; of other signs some number.
func number(s string) int {
	n := 0
	for i := range len(s) {
		n = 10*n + int(s[i]) - '0'
	}
	return n
}
