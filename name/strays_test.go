package name_test

// strays are texts all of whose bytes, one by one, no UTF-8 tells.
func strays() []string {
	return []string{
		// One that goes on, with none ahead of it.
		"\x80", "\x81", "\xa0", "\xbd", "\xbf", "\x80\x80", "\xbf\xbd", "\x80\xbf\xaf\x90",
		// The first of two, three, four, with the others missing.
		"\xc2", "\xc3", "\xdf", "\xe0", "\xe1", "\xec", "\xed", "\xef", "\xf0", "\xf1", "\xf4",
		"\xe0\xa0", "\xe2\x82", "\xed\x9f", "\xef\xbf", "\xf0\x90", "\xf0\x9f", "\xf4\x8f",
		"\xf0\x90\x80", "\xf0\x9f\x98", "\xf4\x8f\xbf",
		// Firsts one behind the other.
		"\xc3\xc3", "\xe2\xc3", "\xf0\xe2\xc2", "\xef\xbf\xef\xbf",
		// More bytes than are needed.
		"\xc0\x80", "\xc0\xaf", "\xc1\x81", "\xc1\xbf", "\xe0\x80\x80", "\xe0\x80\xaf", "\xe0\x81\xa1", "\xe0\x9f\xbf",
		"\xf0\x80\x80\x80", "\xf0\x80\x81\xa1", "\xf0\x82\x82\xac", "\xf0\x8f\xbf\xbf", "\xf0\x8f\xbf\xbd",
		// Halves of surrogate pairs, alone and two together.
		"\xed\xa0\x80", "\xed\xad\xbf", "\xed\xaf\xbf", "\xed\xb0\x80", "\xed\xbf\xbf", "\xed\xa0\xbd\xed\xb8\x80",
		// Above 1114111, and bytes that begin nothing.
		"\xf4\x90\x80\x80", "\xf4\xbf\xbf\xbf", "\xf5\x80\x80\x80", "\xf7\xbf\xbf\xbf",
		"\xf8", "\xf8\x88\x80\x80\x80", "\xfc\x84\x80\x80\x80\x80", "\xfe", "\xff", "\xff\xfe", "\xfe\xff",
	}
}

// edges are runes at the ends of what one, two, three and four bytes tell, and beside what they do not tell.
func edges() []string {
	return []string{
		"\u0080", "\u0081", "\u00a0", "\u00e9", "\u07ff", "\u0800", "\u20ac", "\ud7ff", "\ue000",
		"\ufeff", "\ufffc", "\ufffd", "\ufffe", "\uffff", "\U00010000", "\U0001F600", "\U0010FFFF",
	}
}
