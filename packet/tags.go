package packet

// The tags of filters' items.
const (
	tagAnd   = 0xa0
	tagOr    = 0xa1
	tagNot   = 0xa2
	tagEqual = 0xa3
	tagPart  = 0xa4
	tagMore  = 0xa5
	tagLess  = 0xa6
	tagHave  = 0x87
	tagLike  = 0xa8
	tagRule  = 0xa9
)

// The tags of the items that stand in them; what a number says hangs on the item around it.
const (
	tagText   = 0x04
	tagPieces = 0x30

	// In tagPieces.
	tagStart  = 0x80
	tagMiddle = 0x81
	tagEnd    = 0x82

	// In tagRule.
	tagRuleWord  = 0x81
	tagRuleDesc  = 0x82
	tagRuleValue = 0x83
	tagRuleDn    = 0x84
)

func classOf(tag byte) int8 { return int8(tag >> 6) }

func numberOf(tag byte) int { return int(tag & 0x1f) }
