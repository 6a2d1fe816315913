package types

import "dredger/api"

// kindOf is the kind of type that a word stands for, or 0.
func kindOf(word string) int {
	switch word {
	case "int8", "int16", "int32", "int64":
		return api.TypeInt
	case "const":
		return api.TypeConst
	case "flags":
		return api.TypeFlags
	case "len":
		return api.TypeLen
	case "ptr":
		return api.TypePtr
	case "array":
		return api.TypeArray
	case "text":
		return api.TypeText
	case "data":
		return api.TypeData
	}
	return 0
}

// sizeOf is the size of an integer type, or 0.
func sizeOf(word string) int {
	switch word {
	case "int8":
		return 1
	case "int16":
		return 2
	case "int32":
		return 4
	case "int64":
		return 8
	}
	return 0
}

// dirOf is the direction that a word stands for, or 0.
func dirOf(word string) int {
	switch word {
	case "in":
		return api.DirIn
	case "out":
		return api.DirOut
	case "inout":
		return api.DirInOut
	}
	return 0
}

// isReserved: does the word have a meaning of its own, where types stand?
func isReserved(word string) bool { return kindOf(word) != 0 || dirOf(word) != 0 }
